/-
  ScrubUnlike's walk.
-/
import Derived.Test.YtoonlhjldkkanaaScrubE
namespace Go.Proofs.Ytoonlhjldkkanaa
open Go.RowKit
set_option linter.unusedVariables false
set_option linter.unusedSimpArgs false

theorem sr_diff {w : World} {a : Option Addr} {len cap : Nat} {A B : List HI} {K : List Int} (h : SR w (.slice a len cap) 5 len (dCells A B K)) {k : Nat} {n : Int} (hk : K[k]? = some n) (hl : K.length = len) :
    ∃ b off, a = some ⟨b, off, none⟩ ∧ b < w.heap.size ∧ w.cell? ⟨b, off + k * 5, none⟩ = some (.int .i64 n) ∧ w.cell? ⟨b, off + k * 5 + 1, none⟩ = some (.int .u64 (gv (getL A n))) ∧ w.cell? ⟨b, off + k * 5 + 2, none⟩ = some (.string (gd (getL A n))) ∧
      w.cell? ⟨b, off + k * 5 + 3, none⟩ = some (.int .u64 (gv (getL B n))) ∧ w.cell? ⟨b, off + k * 5 + 4, none⟩ = some (.string (gd (getL B n))) := by
  obtain ⟨a', cap', he, h1, h2, h3, h4⟩ := h
  injection he with e1 _ e2
  subst e1 e2
  have hlt := (List.getElem?_eq_some_iff.1 hk).1
  rcases h4 with h4 | ⟨b, off, rfl, hb, hc⟩
  · omega
  · refine ⟨b, off, rfl, hb, ?_, ?_, ?_, ?_, ?_⟩
    · have := hc _ _ (dCells_get A B K k 0 n _ hk (by omega) rfl); simpa using this
    · have := hc _ _ (dCells_get A B K k 1 n _ hk (by omega) rfl); rwa [← Nat.add_assoc] at this
    · have := hc _ _ (dCells_get A B K k 2 n _ hk (by omega) rfl); rwa [← Nat.add_assoc] at this
    · have := hc _ _ (dCells_get A B K k 3 n _ hk (by omega) rfl); rwa [← Nat.add_assoc] at this
    · have := hc _ _ (dCells_get A B K k 4 n _ hk (by omega) rfl); rwa [← Nat.add_assoc] at this
set_option maxHeartbeats 6400000 in
set_option maxRecDepth 400000 in
theorem scrubunlike_law (a0 : Option Addr) (len0 cap0 : Nat) (a1 : Option Addr) (len1 cap1 : Nat) (w : World) (hf0 : Fits w (.slice heldSh) [.slice a0 len0 cap0]) (hf1 : Fits w (.slice heldSh) [.slice a1 len1 cap1]) :
    Calls Try.prog 11 #[.slice a0 len0 cap0, .slice a1 len1 cap1] w fun e w' => e = .returned (.bool true) ∧ Below w.heap.size w w' := by
  obtain ⟨rs, rfl, hr, hro⟩ := fits_held hf0
  obtain ⟨ss, rfl, hs, hso⟩ := fits_held hf1
  have hitem : ∀ (x : Int) (D : ByteArray), itemA x D = #[.int .u64 x, .string D] := fun _ _ => rfl
  have c1 := few43 rs hro w _ hr
  have HSA := Lib.hid (fewL_srt hro)
  have HSB := Lib.hid (fewL_srt hso)
  have hma := fewL_may rs
  have hmb := fewL_may ss
  have HSO := Lib.hid hso
  have HSS := Lib.hid hs
  obtain ⟨A, hA⟩ : ∃ A, fewL rs = A := ⟨_, rfl⟩
  obtain ⟨B, hB⟩ : ∃ B, fewL ss = B := ⟨_, rfl⟩
  rw [hA] at c1 HSA hma
  rw [hB] at HSB hmb
  have HBE := Lib.hid hB
  have HOA := Lib.hid (of_self HSA.out hma)
  have HOB := Lib.hid (of_self HSB.out hmb)
  have HDB := Lib.hid (dif_blocks HSA.out HSB.out hma hmb)
  have HOD := Lib.hid (odd_blocks (A := A) (B := B) HSA.out)
  clear hr hs hro hso hf0 hf1 hA hB hma hmb
  obtain ⟨K, hK⟩ : ∃ K, upTo (dif A B) 64 = K := ⟨_, rfl⟩
  obtain ⟨O, hO⟩ : ∃ O, upTo (oddP A B) 64 = O := ⟨_, rfl⟩
  have hkl := upTo_len (dif A B) 64
  have hol := upTo_len (oddP A B) 64
  rw [hK] at HDB hkl
  rw [hO] at HOD hol
  have HK := Lib.hid hK
  have HO := Lib.hid hO
  clear hK hO
  go_enter Try.func11, Try.ntmps11
  go_wp2_with fail
  refine Calls.mono c1 ?_
  rintro e w1 ⟨v1, rfl, ho1, hb1⟩
  have c2 := few43 ss HSO.out w1 _ (HSS.out.below hb1)
  rw [HBE.out] at c2
  obtain ⟨p1, q1, rfl, hl1, hm1⟩ := ho1.form
  have R1 := Lib.hid ho1
  have HB1 := Lib.hid hb1
  clear ho1 hb1 c1
  go_wp2_with fail
  refine Calls.mono c2 ?_
  rintro e w2 ⟨v2, rfl, ho2, hb2⟩
  have R1a := Lib.hid (R1.out.below hb2)
  have R2 := Lib.hid ho2
  obtain ⟨p2, q2, rfl, hl2, hm2⟩ := ho2.form
  have HB2 := Lib.hid (HB1.out.trans (hb2.mono HB1.out.size))
  have c3 := sunlike A B HSA.out.ok HSB.out.ok w2 _ _ R1a.out R2.out
  rw [HOA.out, HOB.out, HDB.out] at c3
  clear ho2 hb2 c2 R1
  go_wp2_with fail
  refine Calls.mono c3 ?_
  rintro e w3 ⟨v3, rfl, ho3, hb3⟩
  obtain ⟨p3, q3, rfl, hl3, hm3⟩ := ho3.form
  have RD := Lib.hid ho3
  have RX := Lib.hid (R1a.out.below hb3)
  have RY := Lib.hid (R2.out.below hb3)
  have HB3 := Lib.hid (HB2.out.trans (hb3.mono HB2.out.size))
  have c4 := sodd A B HSA.out.ok HSB.out.ok w3 _ _ RX.out RY.out
  rw [HOA.out, HOB.out, HOD.out] at c4
  clear ho3 hb3 c3 R1a R2
  go_wp2_with fail
  refine Calls.mono c4 ?_
  rintro e w4 ⟨v4, rfl, ho4, hb4⟩
  obtain ⟨p4, q4, rfl, hl4, hm4⟩ := ho4.form
  have RO4 := Lib.hid ho4
  have RD4 := Lib.hid (RD.out.below hb4)
  have RX4 := Lib.hid (RX.out.below hb4)
  have RY4 := Lib.hid (RY.out.below hb4)
  have HB4 := Lib.hid (HB3.out.trans (hb4.mono HB3.out.size))
  unfold maxLen at hm1 hm2 hm3 hm4
  clear ho4 hb4 c4 RX RY RD
  go_wp2_with fail
  go_loopw [9, 10, 11] (fun k o i wr => ∃ n : Nat, n ≤ 64 ∧ i = .int .i64 n ∧ k = .int .i64 (upTo (dif A B) n).length ∧ o = .int .i64 (upTo (oddP A B) n).length ∧ Hid (Below w4.heap.size w4 wr)) (fun _ _ i _ => 64 - (intOf i).toNat)
  case atStart => exact ⟨0, Nat.zero_le _, rfl, rfl, rfl, Lib.hid (Below.refl _ _)⟩
  case round =>
    obtain ⟨n, hn, rfl, rfl, rfl, HL⟩ := hrel
    by_cases hlt : n < 64
    · have cA := rget A n wr _ (RX4.out.below HL.out)
      simp only [hitem] at cA
      obtain ⟨hG1, hG2⟩ := get_wf HSA.out n
      obtain ⟨hH1, hH2⟩ := get_wf HSB.out n
      have hkn := upTo_le (dif A B) n 64 hn
      have hon := upTo_le (oddP A B) n 64 hn
      rw [HK.out] at hkn
      rw [HO.out] at hon
      have HKA := Lib.hid (upTo_at (dif A B) n 64 hlt)
      have HOA2 := Lib.hid (upTo_at (oddP A B) n 64 hlt)
      rw [HK.out] at HKA
      rw [HO.out] at HOA2
      have HKN := Lib.hid (upTo_next (dif A B) n)
      have HON := Lib.hid (upTo_next (oddP A B) n)
      obtain ⟨kn, hkn2⟩ : ∃ kn, (upTo (dif A B) n).length = kn := ⟨_, rfl⟩
      obtain ⟨on, hon2⟩ : ∃ on, (upTo (oddP A B) n).length = on := ⟨_, rfl⟩
      rw [hkn2] at hkn HKA
      rw [hon2] at hon HOA2
      have HKN2 := Lib.hid hkn2
      have HON2 := Lib.hid hon2
      try rw [hkn2]
      try rw [hon2]
      clear hkn2 hon2
      obtain ⟨V, hV⟩ : ∃ V, gv (getL A n) = V := ⟨_, rfl⟩
      obtain ⟨D, hD⟩ : ∃ D, gd (getL A n) = D := ⟨_, rfl⟩
      obtain ⟨q, hq⟩ : ∃ q, (getL A n).isSome = q := ⟨_, rfl⟩
      obtain ⟨V', hV'⟩ : ∃ V, gv (getL B n) = V := ⟨_, rfl⟩
      obtain ⟨D', hD'⟩ : ∃ D, gd (getL B n) = D := ⟨_, rfl⟩
      obtain ⟨q', hq'⟩ : ∃ q, (getL B n).isSome = q := ⟨_, rfl⟩
      rw [hV, hD, hq] at cA
      rw [hV] at hG1
      rw [hD] at hG2
      rw [hV'] at hH1
      rw [hD'] at hH2
      have HQ := Lib.hid (show gv (getL A n) = V ∧ gd (getL A n) = D ∧ (getL A n).isSome = q from ⟨hV, hD, hq⟩)
      have HQ' := Lib.hid (show gv (getL B n) = V' ∧ gd (getL B n) = D' ∧ (getL B n).isSome = q' from ⟨hV', hD', hq'⟩)
      have hdif : dif A B n = decide (¬ (q = q' ∧ V = V' ∧ D = D')) := by unfold dif; rw [hV, hD, hq, hV', hD', hq']
      have hodd : oddP A B n = (q && (q' && (decide (V' = V) && decide (¬ D' = D)))) := by unfold oddP; rw [hV, hD, hq, hV', hD', hq']
      have HDIF := Lib.hid hdif
      have HODD := Lib.hid hodd
      clear hV hD hq hV' hD' hq' hdif hodd
      go_wp2_with fail
      refine Calls.mono cA ?_
      rintro e w5 ⟨rfl, hb5⟩
      have hb6 := hb5.alloc hb5.size (.cells #[.int .u64 V, .string D] 24)
      have hz := heap_alloc_self w5 (.cells #[.int .u64 V, .string D] 24)
      clear hb5 cA
      go_upto_region 8 with fail
      generalize w5.alloc (.cells #[.int .u64 V, .string D] 24) = w6 at *
      have cB := rget B n w6 _ (RY4.out.below (HL.out.trans (hb6.mono HL.out.size)))
      simp only [hitem] at cB
      rw [HQ'.out.1, HQ'.out.2.1, HQ'.out.2.2] at cB
      have HZ6 := Lib.hid hz
      have HB6 := Lib.hid hb6
      clear hb6 hz
      go_wp2_with fail
      refine Calls.mono cB ?_
      rintro e w7 ⟨rfl, hb7⟩
      have hbb := HB6.out.trans (hb7.mono HB6.out.size)
      have hb8 := hbb.alloc hbb.size (.cells #[.int .u64 V', .string D'] 24)
      have hz := heap_alloc_self w7 (.cells #[.int .u64 V', .string D'] 24)
      have z8 := alloc_far (o := .cells #[.int .u64 V', .string D'] 24) (below_at hb7 (lt_heap HZ6.out) HZ6.out)
      clear hb7 hbb cB
      go_upto_region 9 with fail
      generalize w7.alloc (.cells #[.int .u64 V', .string D'] 24) = w8 at *
      obtain ⟨e0, e1, -, -⟩ := item_cells z8
      obtain ⟨f0, f1, -, -⟩ := item_cells hz
      have hb8' := HL.out.trans (hb8.mono HL.out.size)
      have HB8 := Lib.hid hb8'
      have HD8 := Lib.hid (RD4.out.below hb8')
      have HO8 := Lib.hid (RO4.out.below hb8')
      clear hb8 z8 hz hb8'
      have hg := itemguard
      have hgd := diffguard
      obtain ⟨p, hp⟩ : ∃ p, dif A B n = p := ⟨_, rfl⟩
      go_cut [49] (fun s wx => s = .bool p ∧ wx = w8)
      case first =>
        have hp2 : p = decide (¬ (q = q' ∧ V = V' ∧ D = D')) := by rw [← hp, HDIF.out]
        clear hp
        by_cases hqq : q = q'
        · subst hqq
          obtain ⟨r, hr⟩ : ∃ r : Bool, (r = true ↔ (V = V' ∧ D = D')) := ⟨decide (V = V' ∧ D = D'), by simp⟩
          have hne := fun w => item_dif V D V' D' w hG1 hG2 hH1 hH2 r hr
          obtain rfl : p = !r := by rw [hp2, Bool.eq_iff_iff]; simp [← hr]
          clear hp2 hr
          go_wp2_with fail
          go_meet
          exact ⟨rfl, rfl⟩
        · obtain rfl : p = true := by rw [hp2]; simp [hqq]
          obtain rfl : q' = !q := by clear HDIF HQ HQ' HODD hp2; revert hqq; cases q <;> cases q' <;> decide
          clear hp2 hqq
          cases q
          all_goals
            go_wp2_with fail
            go_meet
            exact ⟨rfl, rfl⟩
      case rest =>
        obtain ⟨rfl, rfl⟩ := hcut
        obtain ⟨W0, hW0⟩ : ∃ W0, W0 = wc := ⟨_, rfl⟩
        subst hW0
        have HP := Lib.hid hp
        clear hp
        go_upto_if 49 with fail
        go_cut [9] (fun k wx => ∃ kk : Nat, k = .int .i64 kk ∧ Hid (kk = kn + (if p = true then 1 else 0)) ∧ ∃ t, wx = W0.drewN t)
        case first =>
          cases p
          · go_wp2_with fail
            go_meet
            exact ⟨kn, rfl, Lib.hid rfl, 0, rfl⟩
          · have hkk := HKA.out HP.out
            have hkK : kn < K.length := (List.getElem?_eq_some_iff.1 hkk).1
            have hkI : (kn : Int) < K.length := by omega
            have hk0 : (0 : Int) ≤ kn := by omega
            have hkg : ¬ ((K.length : Int) ≤ kn) := by omega
            obtain ⟨b, off, rfl, -, k0, k1, k2, k3, k4⟩ := sr_diff HD8.out hkk rfl
            rw [HQ.out.1] at k1
            rw [HQ.out.2.1] at k2
            rw [HQ'.out.1] at k3
            rw [HQ'.out.2.1] at k4
            have hdn := fun w => diff_neq n V D V' D' (wf_of (by omega)) hG1 hG2 hH1 hH2 w
            clear hkk
            go_wp2_with fail
            go_quiet (fail)
            go_wp2_with fail
            go_meet
            exact ⟨kn + 1, by go_num, Lib.hid rfl, _, rfl⟩
        case rest =>
          obtain ⟨kk, rfl, HKK, t, rfl⟩ := hcut
          clear hg hgd
          have e0' : (W0.drewN t).cell? ⟨w5.heap.size, 0, none⟩ = some (.int .u64 V) := e0
          have e1' : (W0.drewN t).cell? ⟨w5.heap.size, 1, none⟩ = some (.string D) := e1
          have f0' : (W0.drewN t).cell? ⟨w7.heap.size, 0, none⟩ = some (.int .u64 V') := f0
          have f1' : (W0.drewN t).cell? ⟨w7.heap.size, 1, none⟩ = some (.string D') := f1
          have HF := Lib.hid (below_drewN' HB8.out t)
          have HOF : Hid (SR (W0.drewN t) (.slice p4 O.length q4) 1 O.length (nCells O)) := Lib.hid (HO8.out.below (below_drewN' (Below.refl _ _) t))
          clear e0 e1 f0 f1
          generalize W0.drewN t = w9 at *
          go_upto_region 13 with fail
          obtain ⟨r, hr⟩ : ∃ r, oddP A B n = r := ⟨_, rfl⟩
          go_cut [84] (fun s wx => s = .bool r ∧ wx = w9)
          case first =>
            have hr2 : r = (q && (q' && (decide (V' = V) && decide (¬ D' = D)))) := by rw [← hr, HODD.out]
            clear hr
            cases q
            · obtain rfl : r = false := by rw [hr2]; rfl
              clear hr2
              go_wp2_with fail
              go_meet
              exact ⟨rfl, rfl⟩
            · cases q'
              · obtain rfl : r = false := by rw [hr2]; rfl
                clear hr2
                go_wp2_with fail
                go_meet
                exact ⟨rfl, rfl⟩
              · by_cases hv : V' = V
                · by_cases hd : D' = D
                  · obtain rfl : r = false := by rw [hr2]; simp [hd]
                    clear hr2
                    subst hv hd
                    go_wp2_with fail
                    go_meet
                    exact ⟨rfl, rfl⟩
                  · obtain rfl : r = true := by rw [hr2]; simp [hv, hd]
                    have h1 := ba_ne (fun e => hd e.symm : D ≠ D')
                    have h2 : ¬ D.toList = D'.toList := fun e => by rw [e] at h1; simp at h1
                    have h3 : (D.toList != D'.toList) = true := by simp [bne, h1]
                    clear hr2
                    subst hv
                    go_wp2_with fail
                    go_meet
                    exact ⟨rfl, rfl⟩
                · obtain rfl : r = false := by rw [hr2]; simp [hv]
                  have h1 : (V == V') = false := by simpa using fun e : V = V' => hv e.symm
                  clear hr2
                  go_wp2_with fail
                  go_meet
                  exact ⟨rfl, rfl⟩
          case rest =>
            obtain ⟨rfl, rfl⟩ := hcut
            obtain ⟨W1, hW1⟩ : ∃ W1, W1 = wc := ⟨_, rfl⟩
            subst hW1
            have hkfin : (upTo (dif A B) (n + 1)).length = kk := by
              rw [HKK.out, HKN.out, List.length_append, HKN2.out, HP.out]
              split <;> rfl
            have HKF := Lib.hid hkfin
            have hrr := hr
            have HR := Lib.hid hr
            clear hr hkfin
            cases r
            · have hofin : (upTo (oddP A B) (n + 1)).length = on := by rw [HON.out, List.length_append, HON2.out, hrr]; rfl
              have HOFN := Lib.hid hofin
              clear hofin hrr
              go_wp2_with fail
              go_roundw
              case rel => exact ⟨n + 1, by omega, by go_num, by rw [HKF.out], by rw [HOFN.out], HF⟩
              case measure => simp [intOf]; omega
            · have hofin : (upTo (oddP A B) (n + 1)).length = on + 1 := by rw [HON.out, List.length_append, HON2.out, hrr]; rfl
              have HOFN := Lib.hid hofin
              have hoo := HOA2.out hrr
              have hoO : on < O.length := (List.getElem?_eq_some_iff.1 hoo).1
              have hoI : (on : Int) < O.length := by omega
              have ho0 : (0 : Int) ≤ on := by omega
              have hog : ¬ ((O.length : Int) ≤ on) := by omega
              obtain ⟨b, off, rfl, -, hcell⟩ := SR.int HOF.out (by omega)
              have k0 := hcell on hoO
              rw [List.getD_eq_getElem?_getD, hoo, Option.getD_some] at k0
              clear hofin hrr hoo hcell
              go_wp2_with fail
              go_roundw
              case rel => exact ⟨n + 1, by omega, by go_num, by rw [HKF.out], by rw [HOFN.out]; go_num, HF⟩
              case measure => simp [intOf]; omega
    · obtain rfl : n = 64 := by omega
      rw [HK.out, HO.out]
      go_wp2_with fail
      refine Calls.mono (awake43 _) ?_
      rintro e w5 ⟨rfl, hb5⟩
      have HF := Lib.hid ((HB4.out.trans (HL.out.mono HB4.out.size)).trans (hb5.mono (HB4.out.trans (HL.out.mono HB4.out.size)).size))
      clear hb5
      go_wp2_with fail
      go_ret
      exact ⟨rfl, HF.out⟩
end Go.Proofs.Ytoonlhjldkkanaa
