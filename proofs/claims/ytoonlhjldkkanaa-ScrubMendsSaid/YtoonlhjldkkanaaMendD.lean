/-
  ScrubMends' walk.
-/
import Derived.Test.YtoonlhjldkkanaaMendC
namespace Go.Proofs.Ytoonlhjldkkanaa
open Go.RowKit
set_option linter.unusedVariables false
set_option linter.unusedSimpArgs false

theorem keeps_st {N : Nat} {w w' : World} {X : Prop} {b o o2 : Nat} {v v2 : Value} (h1 : N ≤ w'.heap.size ∧ Below N w w' ∧ X) (hb : N ≤ b) : N ≤ ((w'.setCell ⟨b, o, none⟩ v).setCell ⟨b, o2, none⟩ v2).heap.size ∧ Below N w ((w'.setCell ⟨b, o, none⟩ v).setCell ⟨b, o2, none⟩ v2) ∧ ∀ c k, c < N → ((w'.setCell ⟨b, o, none⟩ v).setCell ⟨b, o2, none⟩ v2).cell? ⟨c, k, none⟩ = w.cell? ⟨c, k, none⟩ :=
  have h := (h1.2.1.setCell (p := ⟨b, o, none⟩) hb v).setCell (p := ⟨b, o2, none⟩) hb v2
  ⟨by simpa using h1.1, h, fun c k hc => h.cell (p := ⟨c, k, none⟩) hc⟩
theorem keeps_2 {N : Nat} {w w' : World} {X : Prop} (h1 : N ≤ w'.heap.size ∧ Below N w w' ∧ X) : N ≤ w'.heap.size ∧ Below N w w' := ⟨h1.1, h1.2.1⟩
noncomputable def insL (Rs : List (List HI)) (j : Nat) : List (List HI) := (Rs.take j).map fewL
theorem insL_next {Rs : List (List HI)} {j : Nat} {R : List HI} (h : Rs[j]? = some R) : insL Rs (j + 1) = insL Rs j ++ [fewL R] := by
  have hj := (List.getElem?_eq_some_iff.1 h).1
  rw [List.getElem?_eq_getElem hj] at h
  unfold insL
  rw [List.take_succ_eq_append_getElem hj, Option.some.inj h, List.map_append]
  rfl
theorem insL_len (Rs : List (List HI)) (j : Nat) (h : j ≤ Rs.length) : (insL Rs j).length = j := by unfold insL; rw [List.length_map, List.length_take]; omega
theorem insL_fine {Rs : List (List HI)} (h : ∀ R ∈ Rs, ∀ x ∈ R, Raw x) (j : Nat) : Fine (insL Rs j) := fun L hL => by
  obtain ⟨R, hR, rfl⟩ := List.mem_map.1 hL
  exact ⟨fewL_srt (h R (List.mem_of_mem_take hR)), fewL_may R⟩
theorem allL_snoc (Ls : List (List HI)) (L : List HI) : allL (Ls ++ [L]) = putAll [] (allL Ls ++ L) := by rw [allL, List.foldl_append]; rfl
set_option maxHeartbeats 6400000 in
set_option maxRecDepth 400000 in
theorem scrubmends_law (a0 : Option Addr) (len0 cap0 : Nat) (w : World) (hf0 : Fits w (.slice (.slice heldSh)) [.slice a0 len0 cap0]) :
    Calls Try.prog 12 #[.slice a0 len0 cap0] w fun e w' => e = .returned (.bool true) ∧ Below w.heap.size w w' := by
  have hitem : ∀ (x : Int) (D : ByteArray), itemA x D = #[.int .u64 x, .string D] := fun _ _ => rfl
  obtain ⟨i0, hi, hz0, hz1, hz2⟩ := info_parts info_list
  obtain ⟨Rs, vs, rfl, hr, hro⟩ := fits_lists hf0
  obtain ⟨hlc, hcm, -⟩ := hf0.slice
  unfold maxLen at hcm
  have HR := Lib.hid hr
  have HRO := Lib.hid hro
  have HFN := Lib.hid (fun j => insL_fine hro j)
  have hb1 : Below w.heap.size w ((w.alloc (.cells #[] 38)).alloc (.cells #[] 58)) := ((Below.refl _ _).alloc (Nat.le_refl _) _).alloc (by simp) _
  have ho1 : OwnV ((w.alloc (.cells #[] 38)).alloc (.cells #[] 58)) w.heap.size (.slice (some ⟨w.heap.size, 0, none⟩) 0 0) [] [] := ⟨(World.ownsRow_lit (base := w.heap.size) w #[] 0 (Nat.le_refl _) (by decide) rfl).alloc _, rfl, fun j L u h _ => by simp at h⟩
  have hs1 : SR ((w.alloc (.cells #[] 38)).alloc (.cells #[] 58)) (.slice (some ⟨w.heap.size + 1, 0, none⟩) 0 0) 3 (allL []).length (hCells (allL [])) := ⟨_, 0, rfl, Nat.le_refl _, Nat.zero_le _, rfl, .inl rfl⟩
  have HB1 := Lib.hid hb1
  have HO1 := Lib.hid ho1
  have HS1 := Lib.hid hs1
  clear hr hro hf0 hb1 ho1 hs1
  go_enter Try.func12, Try.ntmps12
  go_wp2_with fail
  go_loopw [3, 4, 5] (fun iv wv i wr => ∃ (j : Nat) (us : List Value), j ≤ Rs.length ∧ j ≤ 5 ∧ i = .int .i64 j ∧ Hid (OwnV wr w.heap.size iv us (insL Rs j) ∧ SR wr wv 3 (allL (insL Rs j)).length (hCells (allL (insL Rs j))) ∧ (∀ k, wv.ownBlock = some k → some k ≠ iv.ownBlock ∧ k < wr.heap.size) ∧ Below w.heap.size w wr)) (fun _ _ i _ => 5 - (intOf i).toNat)
  case atStart => exact ⟨0, [], Nat.zero_le _, Nat.zero_le _, rfl, Lib.hid ⟨HO1.out, HS1.out, fun k e => by cases e; exact ⟨fun e2 => by simp [Value.ownBlock] at e2, by simp⟩, HB1.out⟩⟩
  case round =>
    clear HB1 HO1 HS1
    obtain ⟨j, us, hj, hj5, rfl, HL⟩ := hrel
    have hwr := HL.out.2.2.2.size
    by_cases hin : j < Rs.length ∧ j < 5
    · obtain ⟨hi1, hi2⟩ := hin
      obtain ⟨R, hR⟩ : ∃ R, Rs[j]? = some R := ⟨_, List.getElem?_eq_getElem hi1⟩
      obtain ⟨b, off, u, rfl, hbl, c0, hu⟩ := srr_at HR.out hR
      obtain ⟨ua, ucap, rfl, -, -⟩ := hu.form
      have HC0 := Lib.hid c0
      rw [← HL.out.2.2.2.cell hbl] at c0
      have hRR := HRO.out R (List.mem_of_getElem? hR)
      have cf := few43x R hRR wr _ (hu.below HL.out.2.2.2)
      have HU := Lib.hid hu
      have HRR := Lib.hid hRR
      have HNX := Lib.hid (insL_next hR)
      have hil := insL_len Rs j hj
      have HIL := Lib.hid hil
      have HBL := Lib.hid hbl
      clear hR hu hRR hil hbl
      obtain ⟨I, hI⟩ : ∃ I, fewL R = I := ⟨_, rfl⟩
      rw [hI] at cf HNX
      have HI := Lib.hid hI
      clear hI
      go_wp2_with fail
      refine Calls.mono cf ?_
      rintro e w2 ⟨v2, rfl, hs2, hn2, hb2⟩
      have hv2 := HL.out.1.below hb2
      have HO2 := Lib.hid hv2
      have hlt2 : ∀ k, v2.ownBlock = some k → k < w2.heap.size ∧ some k ≠ Value.ownBlock _ := fun k e => ⟨(hn2 k e).2, fun e2 => by have := (hn2 k e).1; have := (HL.out.1.own.lt k e2.symm).2; omega⟩
      have HLT2 := Lib.hid hlt2
      have HS2 := Lib.hid hs2
      have HB2 := Lib.hid (HL.out.2.2.2.trans (hb2.mono hwr))
      have HW2 := Lib.hid (HL.out.2.1.below hb2)
      have HWN2 := Lib.hid (fun k e => (⟨(HL.out.2.2.1 k e).1, Nat.lt_of_lt_of_le (HL.out.2.2.1 k e).2 hb2.size⟩ : some k ≠ Value.ownBlock _ ∧ k < w2.heap.size))
      have hw2 := HB2.out.size
      obtain ⟨a2, cap2, rfl, -, -⟩ := hs2.form
      clear hs2 hn2 hb2 hv2 hlt2 cf c0
      go_wp2_with (at_builtin; refine wp_appN Try.underlying81 hi hz0 hz1 hz2 rfl (by decide) rfl (.tmp 28) (.tmp 34) rfl w.heap.size _ _ _ rfl (HO2.out.own.alloc _) _ _ 1 [_] rfl (slice_lit _ _) (by decide) ?c1 ?c2 ?c3 ?c4 ?_)
      case c1 => exact slice_one HS2.out
      case c2 => rw [HIL.out]; unfold maxLen; omega
      case c3 => rw [HIL.out]; omega
      case c4 => simp; omega
      intro v3 w3 hown hgr hnw
      have HO3 := Lib.hid (OwnV.app (L := I) HO2.out HS2.out HLT2.out hown hgr (by simpa using hnw))
      have HB3 := Lib.hid (app_below HB2.out hw2 HO2.out.own hgr)
      have HW3 := Lib.hid (sr_grown HW2.out hgr (fun k e => (HWN2.out k e).1))
      have c0 := HC0.out
      rw [← HB3.out.cell HBL.out] at c0
      have cf := few43x R HRR.out w3 _ (HU.out.below HB3.out)
      rw [HI.out] at cf
      have hw3 := HB3.out.size
      clear hown hgr hnw HW2 HWN2 HLT2 HS2 HO2 HB2 hw2
      go_wp2_with fail
      refine Calls.mono cf ?_
      rintro e w4 ⟨v4, rfl, hs4, -, hb4⟩
      have hwl := (allL_fine _ rfl (HFN.out j)).1
      have hif := (HFN.out (j + 1)) I (by rw [HNX.out]; simp)
      have cm := rmerge (allL (insL Rs j)) I hwl.ok hif.1.ok w4 _ _ (HW3.out.below hb4) hs4 (by have := hwl.len; have := hif.1.len; omega)
      rw [← allL_snoc, ← HNX.out] at cm
      obtain ⟨a4, cap4, rfl, -, -⟩ := hs4.form
      have HO4 := Lib.hid (HO3.out.below hb4)
      have HB4 := Lib.hid (HB3.out.trans (hb4.mono hw3))
      clear hs4 hb4 cf c0 hwl hif
      go_wp2_with fail
      refine Calls.mono cm ?_
      rintro e w5 ⟨v5, rfl, hs5, hn5, hb5⟩
      have HS5 := Lib.hid hs5
      have HN5 := Lib.hid (fun k e => (⟨fun e2 => by have := (hn5 k e).1; have := (HO4.out.own.lt k e2.symm).2; omega, (hn5 k e).2⟩ : some k ≠ Value.ownBlock _ ∧ k < w5.heap.size))
      have HO5 := Lib.hid (HO4.out.below hb5)
      have HB5 := Lib.hid (HB4.out.trans (hb5.mono HB4.out.size))
      clear hs5 hn5 hb5 cm
      go_wp2_with fail
      go_roundw
      case rel => exact ⟨j + 1, _, by omega, by omega, by go_num, Lib.hid ⟨by rw [HNX.out]; exact HO5.out, HS5.out, HN5.out, HB5.out⟩⟩
      case measure => simp [intOf]; omega
    · obtain ⟨W0, hW0⟩ : ∃ W0, W0 = wr := ⟨_, rfl⟩
      subst hW0
      obtain ⟨Is, hIs⟩ : ∃ Is, insL Rs j = Is := ⟨_, rfl⟩
      have hfin := HFN.out j
      have hll := HL.out
      have hlen : (insL Rs j).length ≤ 5 := by unfold insL; rw [List.length_map, List.length_take]; omega
      rw [hIs] at hfin hll hlen
      obtain ⟨g1, g2, g3⟩ := allL_fine _ rfl hfin
      have cM := smend Is hfin hlen W0 _ _ hll.1.srr
      obtain ⟨W, hW⟩ : ∃ W, allL Is = W := ⟨_, rfl⟩
      rw [hW] at g1 g2 g3 cM hll
      have G1 := Lib.hid g1
      have G2 := Lib.hid g2
      have G3 := Lib.hid g3
      have HFI := Lib.hid hfin
      have HI0 := Lib.hid hll.1
      have HW0 := Lib.hid hll.2.1
      have HB0 := Lib.hid hll.2.2.2
      obtain ⟨ia, icap, rfl, hic, him⟩ := (SR.owns hll.1.own).form
      obtain ⟨wa, wcap, rfl, hwc, hwm⟩ := hll.2.1.form
      have hwl := g1.len
      unfold maxLen at him hwm
      clear HL hIs hfin g1 g2 g3 hW hll
      go_upto_region 4 with fail
      go_cut [25] (fun s wx => s = .bool false ∧ wx = W0)
      case first =>
        have hor : ¬ j < Rs.length ∨ ¬ j < 5 := by omega
        clear hin
        go_wp2_with fail
        all_goals
          go_meet
          exact ⟨by first | rfl | (congr 1; exact decide_eq_false (by omega)), rfl⟩
      case rest =>
        obtain ⟨rfl, rfl⟩ := hcut
        obtain ⟨WA, hWA⟩ : ∃ W1, W1 = wc := ⟨_, rfl⟩
        subst hWA
        clear hin hj hj5 hwr HR HRO HFN
        go_wp2_with fail
        refine Calls.mono cM ?_
        rintro e w1 ⟨u1, v1, vs1, rfl, hsu, hsv, hb1⟩
        obtain ⟨ua, ucap, rfl, -, -⟩ := hsu.form
        obtain ⟨la, lcap, hle, hlc1, hlm1⟩ := hsv.1.form
        rw [List.length_map] at hle
        subst hle
        unfold maxLen at hlm1
        have HU1 := Lib.hid hsu
        have HV1 := Lib.hid hsv
        have HI1 := Lib.hid (HI0.out.below hb1)
        have HW1 := Lib.hid (HW0.out.below hb1)
        have HB1 := Lib.hid (HB0.out.trans (hb1.mono HB0.out.size))
        clear hsu hsv hb1 cM
        go_wp2_with fail
        refine Calls.mono (awake43 _) ?_
        rintro e w2 ⟨rfl, hb2⟩
        have HU2 := Lib.hid (HU1.out.below hb2)
        have HV2 := Lib.hid (HV1.out.below hb2)
        have HI2 := Lib.hid (HI1.out.below hb2)
        have HW2 := Lib.hid (HW1.out.below hb2)
        have HB2 := Lib.hid (HB1.out.trans (hb2.mono HB1.out.size))
        have c2 := rsame W w2 _ _ HU2.out HW2.out G1.out.all
        clear hb2 HU1 HV1 HI1 HW1
        go_wp2_with fail
        refine Calls.mono c2 ?_
        rintro e w3 ⟨rfl, hb3⟩
        have HV3 := Lib.hid (HV2.out.below hb3)
        have HI3 := Lib.hid ((HI2.out.below hb3).srr)
        have HW3 := Lib.hid (HW2.out.below hb3)
        have HB3 := Lib.hid (HB2.out.trans (hb3.mono HB2.out.size))
        clear hb3 c2 HU2 HV2 HI2 HW2
        go_wp2_with fail
        go_loopw [8] (fun i wr => ∃ n : Nat, n ≤ Is.length ∧ i = .int .i64 n ∧ Hid (Below w3.heap.size w3 wr)) (fun i _ => Is.length - (intOf i).toNat)
        case atStart => exact ⟨0, Nat.zero_le _, rfl, Lib.hid (Below.refl _ _)⟩
        case round =>
          obtain ⟨n, hn, rfl, HL⟩ := hrel
          by_cases hlt : n < Is.length
          · obtain ⟨I, hI⟩ : ∃ I, Is[n]? = some I := ⟨_, List.getElem?_eq_getElem hlt⟩
            obtain ⟨gI, mI⟩ := HFI.out I (List.mem_of_getElem? hI)
            have hIn := List.mem_of_getElem? hI
            have hK : (Is.map (lkM W))[n]? = some (lkM W I) := by rw [List.getElem?_map, hI]; rfl
            obtain ⟨b, off, u, rfl, -, c0, hu⟩ := srr_at (HI3.out.below HL.out) hI
            obtain ⟨b', off', u', rfl, -, c1, hu'⟩ := srr_at (by have := HV3.out.below HL.out; exact this) hK
            have gK : Srt (lkM W I) := lacks_srt gI G1.out G2.out
            have HM := Lib.hid (fun x (hx : x ∈ W) => mends gI mI G1.out G2.out (G3.out I hIn) hx)
            have HNW := Lib.hid (fun x (hx : x ∈ lkM W I) => lacks_newer gI G1.out G2.out hx)
            obtain ⟨K, hKK⟩ : ∃ K, lkM W I = K := ⟨_, rfl⟩
            have hMK : ∀ x ∈ W, ∃ y, getL (putAll [] (I ++ K)) x.b = some y ∧ y.v = x.v := by rw [← hKK]; exact HM.out
            rw [hKK] at hu' gK HNW
            have HMK := Lib.hid hMK
            have GK := Lib.hid gK
            have GI := Lib.hid gI
            obtain ⟨a2, cap2, rfl, -, -⟩ := hu.form
            obtain ⟨a3, cap3, rfl, hk3, hk4⟩ := hu'.form
            unfold maxLen at hk4
            have hKl := gK.len
            have cm := fun w' (hb : Below wr.heap.size wr w') => rmerge I K gI.ok gK.ok w' _ _ (hu.below hb) (hu'.below hb) (by have := gI.len; omega)
            have HUI := Lib.hid hu
            have HUK := Lib.hid hu'
            have hnI : (n : Int) < Is.length := by omega
            have hn0 : (0 : Int) ≤ n := by omega
            obtain ⟨T, hT⟩ : ∃ T, putAll [] (I ++ K) = T := ⟨_, rfl⟩
            rw [hT] at HMK
            simp only [hT] at cm
            clear hI gI mI hIn hK hu hu' gK HM hKK hMK hT
            go_upto_region 14 with fail
            go_still_tail 8, (by kernel_rfl)
            change wpList _ _ _ _ _ wr.drew
            go_wp2_with fail
            refine Calls.mono (cm wr.drew (below_drew' (Below.refl _ _))) ?_
            rintro e w4 ⟨v4, rfl, hs4, -, hb4⟩
            obtain ⟨a4, cap4, rfl, hq4, hm4⟩ := hs4.form
            unfold maxLen at hm4
            have HT4 := Lib.hid hs4
            have hbr4 := below_of_drew hb4
            have HB4 := Lib.hid (HL.out.trans (hbr4.mono HL.out.size))
            have HUI4 := Lib.hid (HUI.out.below hbr4)
            have HUK4 := Lib.hid (HUK.out.below hbr4)
            have d0 := c0
            have d1 := c1
            rw [← hbr4.cell (by have := World.block_lt_of_cell? _ _ c0; exact this)] at d0
            rw [← hbr4.cell (by have := World.block_lt_of_cell? _ _ c1; exact this)] at d1
            have HD0 := Lib.hid d0
            have HD1 := Lib.hid d1
            clear hs4 hb4 hbr4 cm c0 c1 d0 d1 HUI HUK
            go_wp2_with fail
            go_loopw [10] (fun i w5 => ∃ k : Nat, k ≤ W.length ∧ i = .int .i64 k ∧ Hid (Below w4.heap.size w4 w5)) (fun i _ => W.length - (intOf i).toNat)
            case atStart => exact ⟨0, Nat.zero_le _, rfl, Lib.hid (Below.refl _ _)⟩
            case round =>
              obtain ⟨k, hk, rfl, HL3⟩ := hrel
              by_cases hlt3 : k < W.length
              · obtain ⟨x, hx⟩ : ∃ x, W[k]? = some x := ⟨_, List.getElem?_eq_getElem hlt3⟩
                obtain ⟨y, hy1, hy2⟩ := HMK.out x (List.mem_of_getElem? hx)
                have cg := rget T x.b wr _ (HT4.out.below HL3.out)
                rw [hy1, show gv (some y) = y.v from rfl, hy2, show (some y).isSome = true from rfl] at cg
                simp only [hitem] at cg
                obtain ⟨Y, hY⟩ : ∃ Y, gd (some y) = Y := ⟨_, rfl⟩
                rw [hY] at cg
                obtain ⟨b5, off5, rfl, -, e0, e1, -⟩ := sr_held ((HW3.out.below HB4.out).below HL3.out) k x hx
                have hkI : (k : Int) < W.length := by omega
                have hk0 : (0 : Int) ≤ k := by omega
                have HX := Lib.hid hx
                clear hx hy1 hy2 hY
                go_wp2_with fail
                refine Calls.mono cg ?_
                rintro e w6 ⟨rfl, hb6⟩
                have hb7 := hb6.alloc hb6.size (.cells #[.int .u64 x.v, .string Y] 24)
                have hz := heap_alloc_self w6 (.cells #[.int .u64 x.v, .string Y] 24)
                clear hb6 cg e0 e1
                go_upto_region 19 with fail
                generalize w6.alloc (.cells #[.int .u64 x.v, .string Y] 24) = w7 at *
                obtain ⟨z0, -, -, -⟩ := item_cells hz
                have HB7 := Lib.hid (HL3.out.trans (hb7.mono HL3.out.size))
                obtain ⟨b6, off6, he6, -, e0, e1, -⟩ := sr_held ((HW3.out.below HB4.out).below HB7.out) k x HX.out
                injection he6 with he6
                injection he6 with q1 q2
                subst q1 q2
                clear hb7 hz
                go_quiet (fail)
                go_wp2_with fail
                go_roundw
                case rel => exact ⟨k + 1, by omega, by go_num, Lib.hid (below_drewN' HB7.out _)⟩
                case measure => simp [intOf]; omega
              · have HB5 := Lib.hid (HB4.out.trans (HL3.out.mono HB4.out.size))
                have HI5 := Lib.hid (HUI4.out.below HL3.out)
                have HK5 := Lib.hid (HUK4.out.below HL3.out)
                have d0 := HD0.out
                have d1 := HD1.out
                rw [← HL3.out.cell (by have := World.block_lt_of_cell? _ _ d0; exact this)] at d0
                rw [← HL3.out.cell (by have := World.block_lt_of_cell? _ _ d1; exact this)] at d1
                have HE0 := Lib.hid d0
                have HE1 := Lib.hid d1
                obtain ⟨W5, hW5⟩ : ∃ W5, W5 = wr := ⟨_, rfl⟩
                subst hW5
                clear HL3 d0 d1
                go_wp2_with fail
                go_loopw [13] (fun i w5 => ∃ k : Nat, k ≤ K.length ∧ i = .int .i64 k ∧ Hid (Below W5.heap.size W5 w5)) (fun i _ => K.length - (intOf i).toNat)
                case atStart => exact ⟨0, Nat.zero_le _, rfl, Lib.hid (Below.refl _ _)⟩
                case round =>
                  obtain ⟨k, hk, rfl, HL4⟩ := hrel
                  have d0 := HE0.out
                  have d1 := HE1.out
                  rw [← HL4.out.cell (by have := World.block_lt_of_cell? _ _ d0; exact this)] at d0
                  rw [← HL4.out.cell (by have := World.block_lt_of_cell? _ _ d1; exact this)] at d1
                  by_cases hlt4 : k < K.length
                  · obtain ⟨x, hx⟩ : ∃ x, K[k]? = some x := ⟨_, List.getElem?_eq_getElem hlt4⟩
                    obtain ⟨b5, off5, e5, hb5, e0, e1, -⟩ := sr_held (HK5.out.below HL4.out) k x hx
                    subst e5
                    have cg := fun w' hb => rget I x.b w' _ (HI5.out.below (w' := w') (HL4.out.trans hb))
                    simp only [hitem] at cg
                    have hkI : (k : Int) < K.length := by omega
                    have hk0 : (0 : Int) ≤ k := by omega
                    have HX := Lib.hid hx
                    have hnw := HNW.out x (List.mem_of_getElem? hx)
                    obtain ⟨V, hV⟩ : ∃ V, gv (getL I x.b) = V := ⟨_, rfl⟩
                    obtain ⟨D, hD⟩ : ∃ D, gd (getL I x.b) = D := ⟨_, rfl⟩
                    obtain ⟨q, hq⟩ : ∃ q, (getL I x.b).isSome = q := ⟨_, rfl⟩
                    simp only [hV, hD, hq] at cg
                    have hlt : q = true → ¬ x.v ≤ V := fun h => by
                      rw [h] at hq
                      obtain ⟨y, hy⟩ := Option.isSome_iff_exists.1 hq
                      have := hnw y hy
                      rw [hy] at hV
                      have : y.v = V := hV
                      omega
                    have HLT := Lib.hid hlt
                    clear hx hnw hV hD hq hlt
                    go_upto_region 24 with fail
                    go_cut [14, 15] (fun pX s wx => ∃ X, pX = .pointer (some ⟨X, 0, none⟩) ∧ s = .bool q ∧ wx.heap[X]? = some (.cells #[.int .u64 V, .string D] 24) ∧ Below wr.heap.size wr wx)
                    case first =>
                      have hA := World.block_lt_of_cell? _ _ d0
                      have hB := World.block_lt_of_cell? _ _ d1
                      obtain ⟨N, hN⟩ : ∃ N, wr.heap.size = N := ⟨_, rfl⟩
                      have HN := Lib.hid hN
                      have hbN : b < N := by rw [← hN]; exact hA
                      have hbN' : b' < N := by rw [← hN]; exact hB
                      have hbN5 : b5 < N := by rw [← hN]; exact hb5
                      have c3 : ∀ w', N ≤ w'.heap.size ∧ Below N wr w' → Calls Try.prog 30 #[.slice a2 I.length cap2, .int .i64 x.b] w' fun e w'' => e = .returned (.tuple #[.agg #[.int .u64 V, .string D], .bool q]) ∧ Stays N w' w'' ∧ Below w'.heap.size w' w'' := fun w' h => (cg w' (h.2.mono (by rw [← HN.out]; exact HL4.out.size))).mono fun e w'' ⟨he, hw⟩ => ⟨he, stays_of h.1 hw, hw⟩
                      clear cg hN hA hB hb5
                      go_region_held3 (fun w' => N ≤ w'.heap.size ∧ Below N wr w' ∧ ∀ b o, b < N → w'.cell? ⟨b, o, none⟩ = wr.cell? ⟨b, o, none⟩) (first | assumption | exact keeps_start HN.out | exact keeps_next (by assumption) (by assumption) | exact keeps_alloc (by assumption) | exact keeps_alloc (keeps_next (keeps_start HN.out) hz) | exact keeps_st (by assumption) (Nat.le_of_eq HN.out.symm)) (first | (go_at_call 30; refine Calls.mono (c3 _ (keeps_2 (by assumption))) ?_; rintro e wz ⟨rfl, hz, hzz⟩; try (have y : wz.heap[wr.heap.size]? = some (.cells #[.int .u64 0, .string ⟨#[]⟩] 24) := below_at hzz (by simp) (heap_alloc_self wr.drew (.cells #[.int .u64 0, .string ⟨#[]⟩] 24)); obtain ⟨y0, y1, g0, g1⟩ := item_cells y)))
                      all_goals
                        rename_i hfin
                        have HF := Lib.hid hfin.2.1
                        clear hfin
                        go_wp2_with fail
                        go_meet
                        first
                          | exact ⟨_, rfl, rfl, heap_alloc_self wz _, by rw [HN.out]; exact HF.out⟩
                          | exact ⟨_, rfl, rfl, by simpa using heap_set_self (heap_set_self y 0 (.int .u64 V)) 1 (.string D), by have h := HF.out; rw [← HN.out] at h; exact h⟩
                    case rest =>
                      obtain ⟨X, rfl, rfl, yX, hbX⟩ := hcut
                      obtain ⟨wX, hwX⟩ : ∃ W0, W0 = wc := ⟨_, rfl⟩
                      subst hwX
                      obtain ⟨x0, -, -, -⟩ := item_cells yX
                      have hA := World.block_lt_of_cell? _ _ d0
                      have hB := World.block_lt_of_cell? _ _ d1
                      rw [← hbX.cell (by exact hA)] at d0
                      rw [← hbX.cell (by exact hB)] at d1
                      have HX4 := Lib.hid (HL4.out.trans (hbX.mono HL4.out.size))
                      obtain ⟨b6, off6, he6, -, g0, g1, -⟩ := sr_held (HK5.out.below HX4.out) k x HX.out
                      injection he6 with he6
                      injection he6 with q1 q2
                      subst q1 q2
                      clear hA hB hbX yX cg e0 e1 hb5
                      cases k with
                      | zero =>
                        cases q
                        · go_upto_region 25 with fail
                          go_quiet (fail)
                          go_wp2_with fail
                          go_roundw
                          case rel => exact ⟨1, by omega, by go_num, Lib.hid (below_drewN' HX4.out _)⟩
                          case measure => simp [intOf]; omega
                        · have hnv := HLT.out rfl
                          go_upto_region 25 with fail
                          go_quiet (fail)
                          go_wp2_with fail
                          go_roundw
                          case rel => exact ⟨1, by omega, by go_num, Lib.hid (below_drewN' HX4.out _)⟩
                          case measure => simp [intOf]; omega
                      | succ m =>
                        obtain ⟨z, hz⟩ : ∃ z, K[m]? = some z := ⟨_, List.getElem?_eq_getElem (by omega)⟩
                        obtain ⟨b7, off7, he7, -, f0, -, -⟩ := sr_held (HK5.out.below HX4.out) m z hz
                        injection he7 with he7
                        injection he7 with q1 q2
                        subst q1 q2
                        have hzx : ¬ x.b ≤ z.b := by
                          have hp := List.pairwise_iff_getElem.1 GK.out.pw m (m + 1) (by omega) hlt4 (by omega)
                          have h1 := HX.out
                          rw [List.getElem?_eq_getElem (by omega)] at hz h1
                          rw [Option.some.inj hz, Option.some.inj h1] at hp
                          omega
                        have hmI : (m : Int) < K.length := by omega
                        have hm0 : (0 : Int) ≤ m := by omega
                        have hmw : IntKind.i64.wrap (((m + 1 : Nat) : Int) - 1) = m := by rw [IntKind.wrap_i64]; omega
                        clear hz
                        cases q
                        · go_upto_region 25 with fail
                          go_quiet (fail)
                          go_wp2_with fail
                          go_roundw
                          case rel => exact ⟨m + 1 + 1, by omega, by go_num, Lib.hid (below_drewN' HX4.out _)⟩
                          case measure => simp [intOf]; omega
                        · have hnv := HLT.out rfl
                          go_upto_region 25 with fail
                          go_quiet (fail)
                          go_wp2_with fail
                          go_roundw
                          case rel => exact ⟨m + 1 + 1, by omega, by go_num, Lib.hid (below_drewN' HX4.out _)⟩
                          case measure => simp [intOf]; omega
                  · have HB6 := Lib.hid (HB5.out.trans (HL4.out.mono HB5.out.size))
                    go_wp2_with fail
                    go_roundw
                    case rel => exact ⟨n + 1, by omega, by go_num, HB6⟩
                    case measure => simp [intOf]; omega
          · go_wp2_with fail
            go_ret
            exact ⟨rfl, HB3.out.trans (HL.out.mono HB3.out.size)⟩
end Go.Proofs.Ytoonlhjldkkanaa
