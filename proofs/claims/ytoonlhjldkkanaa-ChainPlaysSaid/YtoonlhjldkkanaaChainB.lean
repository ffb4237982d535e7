/-
  ChainPlays' walk.
-/
import Derived.Test.YtoonlhjldkkanaaChain
import Derived.Test.YtoonlhjldkkanaaItsB
namespace Go.Proofs.Ytoonlhjldkkanaa
open Go.RowKit
set_option linter.unusedVariables false
set_option linter.unusedSimpArgs false

set_option maxHeartbeats 1600000 in
set_option maxRecDepth 100000 in
theorem awake25 (w : World) : Calls Try.prog 47 #[] w fun e w' => e = .returned (.bool true) ∧ Below w.heap.size w w' := by
  have c0 := cnew [] (by simp) w (.slice none 0 0) (SR.nil_ _ _)
  have hfl : ∀ (v : Int) (d : ByteArray) (w : World), (Instr.field 24 (.agg #[.int .u64 v, .string d]) 0).run Try.prog w = .ok (.int .u64 v) w := fun _ _ _ => by kernel_rfl
  go_enter Try.func47, Try.ntmps47
  go_wp2_with fail
  refine Calls.mono c0 ?_
  rintro e w1 ⟨C, sv, rfl, S1, I1, h1⟩
  have c1 := cstore w1 _ _ C sv [] S1 I1 ⟨3, 5, ⟨#[]⟩⟩ true (mayT_none 5) (by decide) (by decide)
  unfold itemA at c1
  rw [show putsL true [] (⟨3, 5, ⟨#[]⟩⟩ : HI) = true by decide, show putL true [] (⟨3, 5, ⟨#[]⟩⟩ : HI) = [⟨3, 5, ⟨#[]⟩⟩] from rfl] at c1
  have H1 := Lib.hid h1
  have HI1 := Lib.hid I1
  clear c0 h1 S1 I1
  go_wp2_with fail
  refine Calls.mono c1 ?_
  rintro e w2 ⟨rfl, sv2, S2, K2⟩
  have I2 := HI1.out.step K2
  have c2 := cload w2 _ _ C sv2 _ S2 I2 3
  rw [show getL [(⟨3, 5, ⟨#[]⟩⟩ : HI)] 3 = some ⟨3, 5, ⟨#[]⟩⟩ from rfl, show gv (some (⟨3, 5, ⟨#[]⟩⟩ : HI)) = 5 from rfl, show gd (some (⟨3, 5, ⟨#[]⟩⟩ : HI)) = ⟨#[]⟩ from rfl] at c2
  unfold itemA at c2
  have H2 := Lib.hid (H1.out.trans K2.below)
  have HI2 := Lib.hid I2
  have HS2 := Lib.hid S2
  clear c1 K2 S2 I2
  go_wp2_with fail
  refine Calls.mono c2 ?_
  rintro e w3 ⟨rfl, h3⟩
  have c3 := cstore w3 _ _ C sv2 _ (HS2.out.below h3) (HI2.out.go h3) ⟨3, 4, ⟨#[]⟩⟩ true (mayT_none 4) (by decide) (by decide)
  unfold itemA at c3
  rw [show putsL true [(⟨3, 5, ⟨#[]⟩⟩ : HI)] (⟨3, 4, ⟨#[]⟩⟩ : HI) = false by decide] at c3
  have H3 := Lib.hid (H2.out.trans (h3.mono H2.out.size))
  clear c2 h3
  go_wp2_with fail
  refine Calls.mono c3 ?_
  rintro e w4 ⟨rfl, sv4, S4, K4⟩
  have H4 := Lib.hid (H3.out.trans K4.below)
  clear c3 S4 K4
  go_wp2_with fail
  go_ret
  exact ⟨rfl, H4.out⟩
theorem keeps_set {N : Nat} {w w' : World} {X : Prop} {b o o2 : Nat} {v v2 : Value} (h1 : N ≤ w'.heap.size ∧ Below N w w' ∧ X) (hb : N ≤ b) : N ≤ ((w'.setCell ⟨b, o, none⟩ v).setCell ⟨b, o2, none⟩ v2).heap.size ∧ Below N w ((w'.setCell ⟨b, o, none⟩ v).setCell ⟨b, o2, none⟩ v2) ∧ ∀ c k, c < N → ((w'.setCell ⟨b, o, none⟩ v).setCell ⟨b, o2, none⟩ v2).cell? ⟨c, k, none⟩ = w.cell? ⟨c, k, none⟩ :=
  have h := (h1.2.1.setCell (p := ⟨b, o, none⟩) hb v).setCell (p := ⟨b, o2, none⟩) hb v2
  ⟨by simpa using h1.1, h, fun c k hc => h.cell (p := ⟨c, k, none⟩) hc⟩
theorem keeps_two {N : Nat} {w w' : World} {X : Prop} (h1 : N ≤ w'.heap.size ∧ Below N w w' ∧ X) : N ≤ w'.heap.size ∧ Below N w w' := ⟨h1.1, h1.2.1⟩
theorem raw_of {rs : List HI} (h : ∀ x ∈ rs, Raw x) {j : Nat} {x : HI} (hx : rs[j]? = some x) : Raw x := h x (List.mem_of_getElem? hx)
set_option maxHeartbeats 3200000 in
set_option maxRecDepth 400000 in
theorem chainplays_law (a0 : Option Addr) (len0 cap0 : Nat) (a1 : Option Addr) (len1 cap1 : Nat) (w : World) (hf0 : Fits w (.slice heldSh) [.slice a0 len0 cap0]) (hf1 : Fits w (.slice heldSh) [.slice a1 len1 cap1]) :
    Calls Try.prog 8 #[.slice a0 len0 cap0, .slice a1 len1 cap1] w fun e w' => e = .returned (.bool true) ∧ Below w.heap.size w w' := by
  obtain ⟨rs, rfl, hr, hro⟩ := fits_held hf0
  obtain ⟨ss, rfl, hs, hso⟩ := fits_held hf1
  have c1 := fun w' hb => near09 rs hro w' _ (hr.below (w' := w') hb)
  have hxo := nearL_ok hro
  have hitem : ∀ (x : Int) (D : ByteArray), itemA x D = #[.int .u64 x, .string D] := fun _ _ => rfl
  obtain ⟨X, hX⟩ : ∃ X, nearL rs = X := ⟨_, rfl⟩
  rw [hX] at hxo
  simp only [hX] at c1
  obtain ⟨hlc, hcm, -⟩ := hf1.slice
  unfold maxLen at hcm
  have HXO := Lib.hid hxo
  have HS := Lib.hid hs
  have HSO := Lib.hid hso
  clear hr hs hro hso hxo hX hf0 hf1
  go_enter Try.func8, Try.ntmps8
  go_wp2_with fail
  refine Calls.mono (c1 w (Below.refl _ _)) ?_
  rintro e w1 ⟨v1, rfl, ho1, hb1⟩
  have c2 := cnew X HXO.out w1 v1 (SR.owns ho1)
  have HB1 := Lib.hid hb1
  clear ho1 hb1
  go_wp2_with fail
  refine Calls.mono c2 ?_
  rintro e w2 ⟨C, sv, rfl, hs2, hi2, hb2⟩
  have HB2 := Lib.hid (HB1.out.trans (hb2.mono HB1.out.size))
  have c3 := c1 w2 HB2.out
  have HS2 := Lib.hid hs2
  have HI2 := Lib.hid hi2
  clear hs2 hi2 hb2 c2 c1
  go_wp2_with fail
  refine Calls.mono c3 ?_
  rintro e w3 ⟨v3, rfl, ho3, hb3⟩
  have HB3 := Lib.hid (HB2.out.trans (hb3.mono HB2.out.size))
  have HS3 := Lib.hid (HS2.out.below hb3)
  have HI3 := Lib.hid (HI2.out.go hb3)
  have c4 := rof X HXO.out w3 v3 (SR.owns ho3)
  clear ho3 hb3 c3
  go_wp2_with fail
  refine Calls.mono c4 ?_
  rintro e w4 ⟨v4, rfl, hm4, hn4, hb4⟩
  have HR4 := Lib.hid (show IRel w w4 w1.heap.size v4 sv (putAll [] X) from ⟨(HS3.out.below hb4).low HB1.out.size, hm4, fun b e => (hn4 b e).2, fun b e => by
      have h1 := hn4 b e
      have h2 := lt_heap HS3.out.2.1
      refine ⟨by omega, fun e2 => ?_⟩
      have := (HS3.out.2.2.1.lt b e2.symm).2
      omega, HB3.out.trans (hb4.mono HB3.out.size)⟩)
  have HI4 := Lib.hid (HI3.out.go hb4)
  clear hm4 hn4 hb4 c4 HI3 HS3 HB3 HS2 HI2 HB2
  obtain ⟨P, hP⟩ : ∃ P, w1.heap.size = P := ⟨_, rfl⟩
  rw [hP] at HR4 HI4
  try rw [hP]
  clear hP HB1
  go_wp2_with fail
  go_loopw [6, 7] (fun mv i wr => ∃ (j : Nat) (l : List HI) (sv : Value), j ≤ ss.length ∧ j ≤ 40 ∧ i = .int .i64 j ∧ Hid (IRel w wr P mv sv l) ∧ Hid (IBlk wr P sv C (chO P))) (fun _ i _ => 40 - (intOf i).toNat)
  case atStart => exact ⟨0, _, sv, by omega, by omega, rfl, HR4, HI4⟩
  case round =>
    clear HR4 HI4
    obtain ⟨j, l, sv, hj1, hj2, rfl, HR, HI⟩ := hrel
    obtain ⟨ma, mc, rfl, hmc, hmm⟩ := HR.out.mir.form
    unfold maxLen at hmm
    by_cases hin : j < ss.length ∧ j < 40
    · obtain ⟨hi1, hi2⟩ := hin
      obtain ⟨x, hx⟩ : ∃ x, ss[j]? = some x := ⟨_, List.getElem?_eq_getElem hi1⟩
      obtain ⟨b, off, rfl, hbl, c0, c1, c2⟩ := sr_held HS.out j x hx
      have hxr := raw_of HSO.out hx
      have hxb := wf_le hxr.b
      have hlj : (j : Int) < ss.length := by omega
      have h0j : (0 : Int) ≤ j := by omega
      have cn := fun w => near_det x.v x.d (x.b / 64) hxr.d w
      simp only [hitem] at cn
      rw [← HR.out.below.cell hbl] at c0 c1 c2
      have HBL := Lib.hid hbl
      have HXJ := Lib.hid hx
      clear hx hxr hbl
      go_upto_region 5 with fail
      go_cut [8] (fun pX wx => ∃ X, pX = .pointer (some ⟨X, 0, none⟩) ∧ wr.heap.size ≤ X ∧ wx.heap[X]? = some (.cells #[.int .u64 x.v, .string (nearD x.d (x.b / 64))] 24) ∧ Below wr.heap.size wr wx)
      case first =>
        obtain ⟨D, hD⟩ : ∃ D, nearD x.d (x.b / 64) = D := ⟨_, rfl⟩
        rw [hD] at cn
        have HD := Lib.hid hD
        clear hD
        obtain ⟨N, hN⟩ : ∃ N, wr.heap.size = N := ⟨_, rfl⟩
        have HN := Lib.hid hN
        have hbl := HBL.out
        have hN2 := HR.out.below.size
        have c3 : ∀ w', N ≤ w'.heap.size → Calls Try.prog 15 #[.agg #[.int .u64 x.v, .string x.d], .int .i64 (x.b / 64)] w' fun e w'' => e = .returned (.agg #[.int .u64 x.v, .string D]) ∧ Stays N w' w'' ∧ Below w'.heap.size w' w'' := fun w' h => (cn w').mono fun e w'' ⟨he, hw⟩ => ⟨he, stays_of h hw, hw⟩
        have hbN : b < N := by omega
        clear cn hN hN2 hbl
        go_region_held3 (fun w' => N ≤ w'.heap.size ∧ Below N wr w' ∧ ∀ b o, b < N → w'.cell? ⟨b, o, none⟩ = wr.cell? ⟨b, o, none⟩) (first | exact keeps_start HN.out | exact keeps_next (by assumption) (by assumption) | exact keeps_alloc (by assumption) | exact keeps_alloc (keeps_next (keeps_start HN.out) hz) | exact keeps_set (by assumption) (Nat.le_of_eq HN.out.symm)) (first | (go_at_call 15; refine Calls.mono (c3 _ (And.left (by assumption))) ?_; rintro e wz ⟨rfl, hz, hzz⟩; try (have y : wz.heap[wr.heap.size]? = some (.cells #[.int .u64 0, .string ⟨#[]⟩] 24) := below_at hzz (by simp) (heap_alloc_self wr.drew (.cells #[.int .u64 0, .string ⟨#[]⟩] 24)); obtain ⟨y0, y1, g0, g1⟩ := item_cells y)))
        all_goals
          rename_i hfin
          have hle : wr.heap.size ≤ wz.heap.size := by have := hz.1; have := HN.out; omega
          have HLE := Lib.hid hle
          have HF := Lib.hid hfin.2.1
          clear hfin hle
          go_wp2_with fail
          go_meet
          first
            | exact ⟨_, rfl, HLE.out, by rw [HD.out]; exact heap_alloc_self wz _, by rw [HN.out]; exact HF.out⟩
            | exact ⟨_, rfl, Nat.le_refl _, by rw [HD.out]; simpa using heap_set_self (heap_set_self y 0 (.int .u64 x.v)) 1 (.string D), by have h := HF.out; rw [← HN.out] at h; exact h⟩
      case rest =>
        obtain ⟨X, rfl, hX, yX, hbX⟩ := hcut
        obtain ⟨wX, hwX⟩ : ∃ W0, W0 = wc := ⟨_, rfl⟩
        subst hwX
        obtain ⟨D, hD⟩ : ∃ D, nearD x.d (x.b / 64) = D := ⟨_, rfl⟩
        have hDs : D.size ≤ 40 := by rw [← hD]; exact nearD_size _ _
        rw [hD] at yX
        clear hD cn c0 c1 c2
        obtain ⟨x0, x1, f0, f1⟩ := item_cells yX
        obtain ⟨V, hV⟩ : ∃ V, V = bits .and .u64 x.v 15 := ⟨_, rfl⟩
        have hVw : (Lit.int .u64 V).wf = true := by rw [hV]; exact u64_and _ _
        have yX2 : (wX.setCell ⟨X, 0, none⟩ (.int .u64 V)).heap[X]? = some (.cells #[.int .u64 V, .string D] 24) := by simpa using heap_set_self yX 0 (.int .u64 V)
        have HB := Lib.hid (hbX.setCell (p := ⟨X, 0, none⟩) hX (.int .u64 V))
        have HXX := Lib.hid yX2
        clear hbX yX yX2
        go_upto_region 7 with fail
        rw [← hV]
        generalize wX.setCell ⟨X, 0, none⟩ (.int .u64 V) = wY at *
        clear x0 x1 f0 f1
        have HR2 := Lib.hid (HR.out.go HB.out)
        have HI2 := Lib.hid (HI.out.go HB.out)
        have HIX := Lib.hid (IBlk.new HR.out HXX.out hX)
        have c0 : wY.cell? ⟨b, off + j * 3, none⟩ = some (.int .i64 x.b) := by
          obtain ⟨b', off', e', -, k0, -, -⟩ := sr_held (HS.out.below HR2.out.below) j x HXJ.out
          injection e' with e'
          injection e' with e1 e2
          subst e1 e2
          exact k0
        clear HB HXX hV HR HI hX
        go_upto_if 58 with fail
        go_cut [9] (fun n wx => ∃ nb, n = .int .i64 nb ∧ wx = wY)
        case first =>
          go_wp2_with fail
          all_goals
            go_meet
            exact ⟨_, rfl, rfl⟩
        case rest =>
          obtain ⟨nb, rfl, rfl⟩ := hcut
          obtain ⟨m, hm, -, -⟩ := may_cases V D
          have hsrt := HR2.out.set.2.2.2
          obtain ⟨x0, x1, -, -⟩ := item_cells HIX.out.at_
          have cd := rlay l ⟨nb, V, D⟩ m _ _ hsrt HR2.out.mir hVw hDs hm
          simp only [hitem] at cd
          go_wp2_with fail
          refine Calls.mono cd ?_
          rintro e w3 ⟨v', rfl, hm3, hn3, hlt3, hb3⟩
          have hX3 := HIX.out.go hb3
          have HM3 := Lib.hid hm3
          have HN3 := Lib.hid hn3
          have HL3 := Lib.hid hlt3
          have HB3 := Lib.hid hb3
          have cs := cstore _ _ _ _ _ _ (HR2.out.set.below hb3) (HI2.out.go hb3) ⟨nb, V, D⟩ m hm hVw hDs
          simp only [hitem] at cs
          have HI3 := Lib.hid (HI2.out.go hb3)
          clear x0 x1 cd hm3 hb3 hn3 hlt3 c0
          obtain ⟨x0, x1, -, -⟩ := item_cells hX3.at_
          obtain ⟨q, hq⟩ : ∃ q, putsL m l ⟨nb, V, D⟩ = q := ⟨_, rfl⟩
          rw [hq] at cs ⊢
          have HX3 := Lib.hid hX3
          clear hX3 hq
          go_wp2_with fail
          refine Calls.mono cs ?_
          rintro e w4 ⟨rfl, sv', hs4, hk4⟩
          have H4 := Lib.hid (HR2.out.lay HB3.out HM3.out HN3.out HL3.out hs4 hk4)
          have HX4 := Lib.hid (HX3.out.step hk4)
          have HI4 := Lib.hid (HI3.out.step hk4)
          clear hs4 hk4 x0 x1 cs HR2 HI2 HIX HM3 HN3 HL3 HB3 HI3 HX3 hsrt
          obtain ⟨l', hl'⟩ : ∃ l', putL m l ⟨nb, V, D⟩ = l' := ⟨_, rfl⟩
          rw [hl'] at H4
          clear hl'
          obtain ⟨ma', mc', rfl, hq1, hq2⟩ := H4.out.mir.form
          obtain ⟨hGw, hGs⟩ := get_wf H4.out.set.2.2.2 nb
          have hneq := fun w => item_neq (gv (getL l' nb)) (gd (getL l' nb)) w hGw hGs
          have cr := rget l' nb w4 _ H4.out.mir
          have cl := fun w' (hb : Below w4.heap.size w4 w') => cload w' _ _ _ _ _ (H4.out.set.below hb) (HI4.out.go hb) nb
          simp only [hitem] at cr cl
          obtain ⟨G, hG⟩ : ∃ G, gv (getL l' nb) = G := ⟨_, rfl⟩
          obtain ⟨GD, hGD⟩ : ∃ GD, gd (getL l' nb) = GD := ⟨_, rfl⟩
          obtain ⟨is, hIs⟩ : ∃ is, (getL l' nb).isSome = is := ⟨_, rfl⟩
          rw [hG, hGD, hIs] at cr
          rw [hG, hGD] at hneq
          simp only [hG, hGD] at cl
          clear hGw hGs hG hGD hIs
          go_wp2_with fail
          refine Calls.mono cr ?_
          rintro e w5 ⟨rfl, hb5⟩
          have hbZ := hb5.alloc hb5.size (.cells #[.int .u64 G, .string GD] 24)
          have yZ := heap_alloc_self w5 (.cells #[.int .u64 G, .string GD] 24)
          clear hb5 cr
          go_upto_region 15 with fail
          generalize w5.alloc (.cells #[.int .u64 G, .string GD] 24) = w6 at *
          obtain ⟨z0, z1, -, -⟩ := item_cells yZ
          have HR6 := Lib.hid (H4.out.go hbZ)
          have HI6 := Lib.hid (HI4.out.go hbZ)
          have hg := itemguard
          have HBZ := Lib.hid hbZ
          obtain ⟨N, hN⟩ : ∃ N, w6.heap.size = N := ⟨_, rfl⟩
          have HN := Lib.hid hN
          have hZN : w5.heap.size < N := by rw [← hN]; exact lt_heap yZ
          have ex : ∀ w', N ≤ w'.heap.size ∧ Below N w6 w' → Below w4.heap.size w4 w' := fun w' h => HBZ.out.trans ((by rw [HN.out]; exact h.2 : Below w6.heap.size w6 w').mono HBZ.out.size)
          have ex6 : ∀ w', N ≤ w'.heap.size ∧ Below N w6 w' → Below w6.heap.size w6 w' := fun w' h => by rw [HN.out]; exact h.2
          have d1 : ∀ w', N ≤ w'.heap.size ∧ Below N w6 w' → Calls Try.prog 45 #[.pointer (some ⟨C, 0, none⟩), .int .i64 nb] w' fun e w'' => e = .returned (.agg #[.int .u64 G, .string GD]) ∧ Stays N w' w'' := fun w' h => (cl w' (ex w' h)).mono fun e w'' q => ⟨q.1, stays_of h.1 q.2⟩
          have d2 : ∀ w', N ≤ w'.heap.size ∧ Below N w6 w' → Calls Try.prog 46 #[.pointer (some ⟨C, 0, none⟩)] w' fun e w'' => (∃ v', e = .returned v' ∧ SR w'' v' 3 l'.length (hCells l')) ∧ Stays N w' w'' := fun w' h => (call_all w' _ _ _ _ _ (HR6.out.set.below (ex6 w' h)) (HI6.out.go (ex6 w' h))).mono fun e w'' ⟨v', q1, q2, q3⟩ => ⟨⟨v', q1, SR.owns q2⟩, stays_of h.1 q3⟩
          have d3 : ∀ w', N ≤ w'.heap.size ∧ Below N w6 w' → ∀ v', SR w' v' 3 l'.length (hCells l') → Calls Try.prog 32 #[v', .slice ma' l'.length mc'] w' fun e w'' => e = .returned (.bool true) ∧ Stays N w' w'' := fun w' h v' hv => (rsame l' w' _ _ hv (HR6.out.mir.below (ex6 w' h)) H4.out.set.2.2.2.all).mono fun e w'' q => ⟨q.1, stays_of h.1 q.2⟩
          clear cl hbZ yZ hN
          go_region_held3 (fun w' => N ≤ w'.heap.size ∧ Below N w6 w' ∧ ∀ b o, b < N → w'.cell? ⟨b, o, none⟩ = w6.cell? ⟨b, o, none⟩) (first | exact keeps_start HN.out | exact keeps_next (by assumption) (by assumption)) (first | (go_at_call 45; refine Calls.mono (d1 _ (keeps_two (by assumption))) ?_; rintro e wz ⟨rfl, hz⟩) | (go_at_call 46; refine Calls.mono (d2 _ (keeps_two (by assumption))) ?_; rintro e wz ⟨⟨v7, rfl, hv7⟩, hz⟩; obtain ⟨a7, c7, rfl, -, -⟩ := hv7.form) | (go_at_call 32; refine Calls.mono (d3 _ (keeps_two (by assumption)) _ (by assumption)) ?_; rintro e wz ⟨rfl, hz⟩))
          all_goals
            rename_i hfin
            have HF := Lib.hid (HR6.out.go (ex6 _ (keeps_two hfin)))
            have HG := Lib.hid (HI6.out.go (ex6 _ (keeps_two hfin)))
            clear hfin
            go_wp2_with fail
            go_roundw
            case rel => exact ⟨j + 1, l', sv', by omega, by omega, by go_num, HF, HG⟩
            case measure => simp [intOf]; omega
    · go_wp2_with fail
      all_goals
        refine Calls.mono (awake25 _) ?_
        rintro e w1 ⟨rfl, hb⟩
        go_wp2_with fail
        go_ret
        exact ⟨rfl, HR.out.below.trans (hb.mono HR.out.below.size)⟩
end Go.Proofs.Ytoonlhjldkkanaa
