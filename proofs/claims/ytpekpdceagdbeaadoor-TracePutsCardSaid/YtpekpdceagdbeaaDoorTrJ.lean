/-
  An act has the document's bytes, and is read again; one that can't be traced has none.
-/
import Derived.Test.YtpekpdceagdbeaaDoorTrI
namespace Go.Proofs.YtpekpdceagdbeaaDoor
open Go.RowKit
set_option linter.unusedVariables false
set_option linter.unusedSimpArgs false

theorem askguard : Tryd.prog.eqGuardType Tryd.prog.depth 62 = false := by kernel_rfl
theorem get_none : errG [] = 2 := by decide +kernel
set_option maxHeartbeats 12800000 in
set_option maxRecDepth 100000 in
theorem traceputs_law (c : Array Value) (odd : Int) (w : World) (hc : Fits w actSh c.toList) (ho : (Lit.int .i64 odd).wf = true) (hT : Tab w) :
    Calls Tryd.prog 8 #[.agg c, .int .i64 odd] w fun e w' => e = .returned (.bool true) ∧ Below w.heap.size w w' := by
  obtain ⟨t, aM, aC, pM, pC, rfl, hw, hat, hpc⟩ := fits_act hc
  have hx := heap_alloc_self w (.cells (actC t (.slice aM t.M.length pM) (.slice aC t.C.length pC)) 64)
  have hb := (Below.refl w.heap.size w).alloc (Nat.le_refl _) (.cells (actC t (.slice aM t.M.length pM) (.slice aC t.C.length pC)) 64)
  have cn := lnear t odd aM aC pM pC _ (hat.below hb) hw ho hpc
  have HT := Lib.hid hT
  have HB := Lib.hid hb
  clear hat hw hpc hT hc
  go_enter Tryd.func8, Tryd.ntmps8
  go_upto_region 1 with fail
  generalize w.alloc (.cells (actC t (.slice aM t.M.length pM) (.slice aC t.C.length pC)) 64) = w1 at *
  obtain ⟨d0, d1, d2, d3, d4, d5, d6, d7, d8, d9, d10, d11⟩ := actIn hx
  unfold actC at cn
  clear hb hx
  go_wp2_with fail
  refine Calls.mono cn ?_
  rintro e w2 ⟨⟨x, vm, vc, rfl, hat, hnr⟩, hb2⟩
  clear d0 d1 d2 d3 d4 d5 d6 d7 d8 d9 d10 d11 cn
  obtain ⟨aM, pM, aC, pC, e1, e2⟩ := hat.form
  subst e1 e2
  obtain ⟨mn, hmn⟩ : ∃ n, x.M.length = n := ⟨_, rfl⟩
  obtain ⟨cl, hcl⟩ : ∃ n, x.C.length = n := ⟨_, rfl⟩
  rw [hmn, hcl] at hat ⊢
  have HB2 := Lib.hid (HB.out.trans (hb2.mono HB.out.size))
  have HNR := Lib.hid hnr
  clear HB hb2 hmn hcl hnr
  have hq := heap_alloc_self w2 (.cells (actC x (.slice aM mn pM) (.slice aC cl pC)) 64)
  have hbq := (Below.refl w2.heap.size w2).alloc (Nat.le_refl _) (.cells (actC x (.slice aM mn pM) (.slice aC cl pC)) 64)
  have HA := Lib.hid (And.intro hq (And.intro (hat.below hbq) (HB2.out.trans (hbq.mono HB2.out.size))))
  clear hq hbq hat
  unfold actC at HA ⊢
  go_upto_region 2 with fail
  obtain ⟨w3, hw3⟩ : ∃ w3, w2.alloc (.cells #[.int .i64 x.W, .int .i64 x.P, .int .i64 x.A, .int .i64 x.B, .int .i64 x.aW, .int .i64 x.aA, .int .i64 x.aL, .string ⟨x.D.toArray⟩, .bool x.u, .slice aM mn pM, .slice aC cl pC, .string ⟨x.S.toArray⟩] 64) = w3 := ⟨_, rfl⟩
  rw [hw3] at HA ⊢
  clear hw3
  obtain ⟨Q, hQ⟩ : ∃ Q, w2.heap.size = Q := ⟨_, rfl⟩
  rw [hQ] at HA ⊢
  clear hQ HB2
  have hDS : x.D.length + x.S.length ≤ 9223372036854775807 := by have := HNR.out.1.d; have := HNR.out.1.s; omega
  obtain ⟨d0, d1, d2, d3, d4, d5, d6, d7, d8, d9, d10, d11⟩ := actIn (t := x) (vm := .slice aM mn pM) (vc := .slice aC cl pC) HA.out.1
  have cp := tput x (.slice aM mn pM) (.slice aC cl pC) w3 HA.out.2.1 hDS (HT.out.below HA.out.2.2)
  unfold actC at cp
  by_cases hm : MayT x
  · have HMD := Lib.hid (decide_eq_true hm)
    have hput : putT x = frameB (encT x) := by unfold putT; rw [if_pos hm]
    obtain ⟨g1, g2⟩ := get_put hm
    rw [hput] at cp
    have HM := Lib.hid hm
    obtain ⟨F, hF⟩ : ∃ F, frameB (encT x) = F := ⟨_, rfl⟩
    rw [hF] at cp g1 g2
    have HFF := Lib.hid hF
    clear hm hput hF
    go_wp2_with fail
    refine Calls.mono cp ?_
    rintro e w4 ⟨rfl, hb4⟩
    have HX4 := Lib.hid (And.intro (below_at hb4 (lt_heap HA.out.1) HA.out.1) (And.intro (HA.out.2.1.below hb4) (HA.out.2.2.trans (hb4.mono HA.out.2.2.size))))
    have cg := tget F w4 (HT.out.below HX4.out.2.2)
    rw [g1, g2] at cg
    clear d0 d1 d2 d3 d4 d5 d6 d7 d8 d9 d10 d11 cp hb4 g1 g2 HA
    go_wp2_with fail
    refine Calls.mono cg ?_
    rintro e w5 ⟨⟨um, uc, rfl, hr⟩, hb5⟩
    have hua := hr.actAt (by have := HM.out.2.1.1; omega) (by have := HM.out.2.2.1.1; omega)
    obtain ⟨bM, qM, bC, qC, e1, e2⟩ := hua.form
    subst e1 e2
    obtain ⟨mk, hmk⟩ : ∃ n, x.M.length = n := ⟨_, rfl⟩
    obtain ⟨ck, hck⟩ : ∃ n, x.C.length = n := ⟨_, rfl⟩
    rw [hmk, hck] at hua ⊢
    have HX5 := Lib.hid (And.intro (below_at hb5 (lt_heap HX4.out.1) HX4.out.1) (And.intro (HX4.out.2.1.below hb5) (HX4.out.2.2.trans (hb5.mono HX4.out.2.2.size))))
    clear cg hr hb5 hmk hck HX4
    have hq := heap_alloc_self w5 (.cells (actC x (.slice bM mk qM) (.slice bC ck qC)) 64)
    have hbq := (Below.refl w5.heap.size w5).alloc (Nat.le_refl _) (.cells (actC x (.slice bM mk qM) (.slice bC ck qC)) 64)
    have HX6 := Lib.hid (And.intro (below_at hbq (lt_heap HX5.out.1) HX5.out.1) (And.intro (HX5.out.2.1.below hbq) (HX5.out.2.2.trans (hbq.mono HX5.out.2.2.size))))
    have HY6 := Lib.hid (And.intro hq (hua.below hbq))
    clear hq hbq hua HX5
    unfold actC at HX6 HY6 ⊢
    go_upto_region 4 with fail
    obtain ⟨w6, hw6⟩ : ∃ w6, w5.alloc (.cells #[.int .i64 x.W, .int .i64 x.P, .int .i64 x.A, .int .i64 x.B, .int .i64 x.aW, .int .i64 x.aA, .int .i64 x.aL, .string ⟨x.D.toArray⟩, .bool x.u, .slice bM mk qM, .slice bC ck qC, .string ⟨x.S.toArray⟩] 64) = w6 := ⟨_, rfl⟩
    rw [hw6] at HX6 HY6 ⊢
    clear hw6
    obtain ⟨R, hR⟩ : ∃ R, w5.heap.size = R := ⟨_, rfl⟩
    rw [hR] at HY6 ⊢
    clear hR
    obtain ⟨N, hN⟩ : ∃ N, w6.heap.size = N := ⟨_, rfl⟩
    have hNW : N ≤ w6.heap.size := Nat.le_of_eq hN.symm
    have hQN : Q < N := by have := lt_heap HX6.out.1; omega
    have aw := fun w' (h' : N ≤ w'.heap.size ∧ Below N w6 w') => (awake51 w' (HT.out.below (HX6.out.2.2.trans ((by rw [hN]; exact h'.2 : Below w6.heap.size w6 w').mono HX6.out.2.2.size)))).mono fun e w'' h => (And.intro h.1 (stays_of h'.1 h.2) : _ ∧ Stays N w' w'')
    have m1 := fun w' (h' : N ≤ w'.heap.size ∧ Below N w6 w') => (tmay x (.slice aM mn pM) (.slice aC cl pC) w' (HX6.out.2.1.below (by rw [hN]; exact h'.2)) hDS).mono fun e w'' h => (And.intro h.1 (stays_of h'.1 h.2) : _ ∧ Stays N w' w'')
    have m2 := fun w' (h' : N ≤ w'.heap.size ∧ Below N w6 w') => (lmay x (.slice aM mn pM) (.slice aC cl pC) w' (HX6.out.2.1.below (by rw [hN]; exact h'.2)) hDS).mono fun e w'' h => (And.intro h.1 (stays_of h'.1 h.2) : _ ∧ Stays N w' w'')
    have m3 := fun w' (hb : Below w6.heap.size w6 w') => lmay x (.slice aM mn pM) (.slice aC cl pC) w' (HX6.out.2.1.below hb) hDS
    rw [HMD.out] at m1 m2 m3
    unfold actC at m1 m2 m3
    obtain ⟨x0, x1, x2, x3, x4, x5, x6, x7, x8, x9, x10, x11⟩ := actIn (t := x) (vm := .slice aM mn pM) (vc := .slice aC cl pC) HX6.out.1
    have HN := Lib.hid hN
    clear hN
    go_region_held3 (fun w' => N ≤ w'.heap.size ∧ Below N w6 w' ∧ ∀ b o, b < N → w'.cell? ⟨b, o, none⟩ = w6.cell? ⟨b, o, none⟩) (first | with_reducible exact keeps_next (by assumption) (by assumption) | exact keepsT_start hNW) (first | (go_at_call 41; (with_reducible refine Calls.mono (aw _ ?hk) ?_); (case hk => exact keepsT_two (by assumption)); rintro ev wz ⟨rfl, hzz⟩) | (go_at_call 42; (with_reducible refine Calls.mono (m1 _ ?hk) ?_); (case hk => exact keepsT_two (by assumption)); rintro ev wz ⟨rfl, hzz⟩) | (go_at_call 43; (with_reducible refine Calls.mono (m2 _ ?hk) ?_); (case hk => exact keepsT_two (by assumption)); rintro ev wz ⟨rfl, hzz⟩))
    rename_i hfin
    have HF := Lib.hid hfin.2.1
    clear hfin x0 x1 x2 x3 x4 x5 x6 x7 x8 x9 x10 x11 aw m1 m2
    have hb7 : Below w6.heap.size w6 wz := by rw [HN.out]; exact HF.out
    have hx7 := below_at hb7 (lt_heap HX6.out.1) HX6.out.1
    obtain ⟨x0, x1, x2, x3, x4, x5, x6, x7, x8, x9, x10, x11⟩ := actIn (t := x) (vm := .slice aM mn pM) (vc := .slice aC cl pC) hx7
    have c3 := m3 _ hb7
    clear hb7 hx7 m3
    go_wp2_with fail
    refine Calls.mono c3 ?_
    rintro e w8 ⟨rfl, hb8⟩
    have HB8 := Lib.hid (show Below w6.heap.size w6 w8 from (by rw [HN.out]; exact HF.out : Below w6.heap.size w6 wz).trans (hb8.mono (by rw [HN.out]; exact HF.out.size |> fun h => by have := HN.out; omega)))
    clear hb8 c3 x0 x1 x2 x3 x4 x5 x6 x7 x8 x9 x10 x11
    have hx8 := below_at HB8.out (lt_heap HX6.out.1) HX6.out.1
    have hy8 := below_at HB8.out (lt_heap HY6.out.1) HY6.out.1
    have HXY := Lib.hid (And.intro hx8 hy8)
    have cl8 := fun w' (hb : Below w8.heap.size w8 w') => lput x (.slice aM mn pM) (.slice aC cl pC) w' (HX6.out.2.1.below (HB8.out.trans (hb.mono HB8.out.size))) HNR.out.1
    rw [HFF.out] at cl8
    have cs8 := fun w' (hb : Below w8.heap.size w8 w') => lsame x (.slice aM mn pM) (.slice aC cl pC) (.slice bM mk qM) (.slice bC ck qC) w' (HX6.out.2.1.below (HB8.out.trans (hb.mono HB8.out.size))) (HY6.out.2.below (HB8.out.trans (hb.mono HB8.out.size))) HM.out
    unfold actC at cl8 cs8
    obtain ⟨x0, x1, x2, x3, x4, x5, x6, x7, x8, x9, x10, x11⟩ := actIn (t := x) (vm := .slice aM mn pM) (vc := .slice aC cl pC) hx8
    clear hx8 hy8
    go_wp2_with fail
    refine Calls.mono (cl8 _ (Below.refl _ _)) ?_
    rintro e w9 ⟨rfl, hb9⟩
    have hx9 := below_at hb9 (lt_heap HXY.out.1) HXY.out.1
    have hy9 := below_at hb9 (lt_heap HXY.out.2) HXY.out.2
    have HXY9 := Lib.hid (And.intro hx9 hy9)
    have HB9 := Lib.hid hb9
    clear x0 x1 x2 x3 x4 x5 x6 x7 x8 x9 x10 x11
    obtain ⟨x0, x1, x2, x3, x4, x5, x6, x7, x8, x9, x10, x11⟩ := actIn (t := x) (vm := .slice aM mn pM) (vc := .slice aC cl pC) hx9
    obtain ⟨y0, y1, y2, y3, y4, y5, y6, y7, y8, y9, y10, y11⟩ := actIn (t := x) (vm := .slice bM mk qM) (vc := .slice bC ck qC) hy9
    have cs9 := cs8 w9 hb9
    clear hx9 hy9 hb9 cl8 cs8
    go_wp2_with fail
    refine Calls.mono cs9 ?_
    rintro e w10 ⟨rfl, hb10⟩
    have hx10 := below_at hb10 (lt_heap HXY9.out.1) HXY9.out.1
    have hy10 := below_at hb10 (lt_heap HXY9.out.2) HXY9.out.2
    have HB10 := Lib.hid (show Below w.heap.size w w10 from HX6.out.2.2.trans ((HB8.out.trans ((HB9.out.trans (hb10.mono HB9.out.size)).mono HB8.out.size)).mono HX6.out.2.2.size))
    clear x0 x1 x2 x3 x4 x5 x6 x7 x8 x9 x10 x11 y0 y1 y2 y3 y4 y5 y6 y7 y8 y9 y10 y11 cs9 hb10
    obtain ⟨x0, x1, x2, x3, x4, x5, x6, x7, x8, x9, x10, x11⟩ := actIn (t := x) (vm := .slice aM mn pM) (vc := .slice aC cl pC) hx10
    obtain ⟨y0, y1, y2, y3, y4, y5, y6, y7, y8, y9, y10, y11⟩ := actIn (t := x) (vm := .slice bM mk qM) (vc := .slice bC ck qC) hy10
    have hn := HM.out.1
    have wf1 : (Lit.int .i64 x.aW).wf = true := wf_of (by have := hn x.aW (by simp [TA.nums]); omega)
    have wf2 : (Lit.int .i64 x.aA).wf = true := wf_of (by have := hn x.aA (by simp [TA.nums]); omega)
    have wf3 : (Lit.int .i64 x.aL).wf = true := wf_of (by have := hn x.aL (by simp [TA.nums]); omega)
    have has := fun w => ask_same x.aW x.aA x.aL ⟨x.D.toArray⟩ x.u w wf1 wf2 wf3 (by show x.D.length ≤ maxLen; have := HM.out.2.2.2; unfold maxLen; omega)
    have hg := askguard
    clear hx10 hy10 hn wf1 wf2 wf3
    go_wp2_with fail
    go_ret
    exact ⟨rfl, HB10.out⟩
  · have HMD := Lib.hid (decide_eq_false hm)
    have hput : putT x = [] := by unfold putT; rw [if_neg hm]
    rw [hput] at cp
    clear hm hput
    have cp' : Calls Tryd.prog 39 #[.agg #[.int .i64 x.W, .int .i64 x.P, .int .i64 x.A, .int .i64 x.B, .int .i64 x.aW, .int .i64 x.aA, .int .i64 x.aL, .string ⟨x.D.toArray⟩, .bool x.u, .slice aM mn pM, .slice aC cl pC, .string ⟨x.S.toArray⟩]] w3 fun e w' => e = .returned (.string ⟨#[]⟩) ∧ Below w3.heap.size w3 w' := cp
    clear cp
    go_wp2_with fail
    refine Calls.mono cp' ?_
    rintro e w4 ⟨rfl, hb4⟩
    have HX4 := Lib.hid (And.intro (below_at hb4 (lt_heap HA.out.1) HA.out.1) (And.intro (HA.out.2.1.below hb4) (HA.out.2.2.trans (hb4.mono HA.out.2.2.size))))
    have cg := tget [] w4 (HT.out.below HX4.out.2.2)
    rw [get_none, show outG [] = zT from by unfold outG; rw [if_neg (by decide +kernel)]] at cg
    clear d0 d1 d2 d3 d4 d5 d6 d7 d8 d9 d10 d11 cp' hb4 HA
    go_wp2_with fail
    refine Calls.mono cg ?_
    rintro e w5 ⟨⟨um, uc, rfl, hr⟩, hb5⟩
    obtain ⟨bM, qM, e1, -, -⟩ := (SR.owns hr.m).form
    obtain ⟨bC, qC, e2, -, -⟩ := (SR.owns hr.c).form
    subst e1 e2
    have hz0 : zT.M.length = 0 := rfl
    have hz1 : zT.C.length = 0 := rfl
    rw [hz0, hz1]
    have HX5 := Lib.hid (And.intro (below_at hb5 (lt_heap HX4.out.1) HX4.out.1) (And.intro (HX4.out.2.1.below hb5) (HX4.out.2.2.trans (hb5.mono HX4.out.2.2.size))))
    clear cg hr hb5 HX4 hz0 hz1
    have hbq := (Below.refl w5.heap.size w5).alloc (Nat.le_refl _) (.cells (actC zT (.slice bM 0 qM) (.slice bC 0 qC)) 64)
    have HX6 := Lib.hid (And.intro (below_at hbq (lt_heap HX5.out.1) HX5.out.1) (And.intro (HX5.out.2.1.below hbq) (HX5.out.2.2.trans (hbq.mono HX5.out.2.2.size))))
    clear hbq HX5
    unfold actC zT at HX6 ⊢
    go_upto_region 4 with fail
    obtain ⟨w6, hw6⟩ : ∃ w6, w5.alloc (.cells #[.int .i64 0, .int .i64 0, .int .i64 0, .int .i64 0, .int .i64 0, .int .i64 0, .int .i64 0, .string ⟨#[]⟩, .bool false, .slice bM 0 qM, .slice bC 0 qC, .string ⟨#[]⟩] 64) = w6 := ⟨_, rfl⟩
    have HX6' := Lib.hid HX6.out
    clear HX6
    have HX6 := HX6'
    clear HX6'
    change Hid ((w5.alloc (.cells #[.int .i64 0, .int .i64 0, .int .i64 0, .int .i64 0, .int .i64 0, .int .i64 0, .int .i64 0, .string ⟨#[]⟩, .bool false, .slice bM 0 qM, .slice bC 0 qC, .string ⟨#[]⟩] 64)).heap[Q]? = some _ ∧ ActAt x (w5.alloc (.cells #[.int .i64 0, .int .i64 0, .int .i64 0, .int .i64 0, .int .i64 0, .int .i64 0, .int .i64 0, .string ⟨#[]⟩, .bool false, .slice bM 0 qM, .slice bC 0 qC, .string ⟨#[]⟩] 64)) _ _ ∧ Below _ _ (w5.alloc (.cells #[.int .i64 0, .int .i64 0, .int .i64 0, .int .i64 0, .int .i64 0, .int .i64 0, .int .i64 0, .string ⟨#[]⟩, .bool false, .slice bM 0 qM, .slice bC 0 qC, .string ⟨#[]⟩] 64))) at HX6
    rw [hw6] at HX6 ⊢
    clear hw6
    obtain ⟨N, hN⟩ : ∃ N, w6.heap.size = N := ⟨_, rfl⟩
    have hNW : N ≤ w6.heap.size := Nat.le_of_eq hN.symm
    have hQN : Q < N := by have := lt_heap HX6.out.1; omega
    have aw := fun w' (h' : N ≤ w'.heap.size ∧ Below N w6 w') => (awake51 w' (HT.out.below (HX6.out.2.2.trans ((by rw [hN]; exact h'.2 : Below w6.heap.size w6 w').mono HX6.out.2.2.size)))).mono fun e w'' h => (And.intro h.1 (stays_of h'.1 h.2) : _ ∧ Stays N w' w'')
    have m1 := fun w' (h' : N ≤ w'.heap.size ∧ Below N w6 w') => (tmay x (.slice aM mn pM) (.slice aC cl pC) w' (HX6.out.2.1.below (by rw [hN]; exact h'.2)) hDS).mono fun e w'' h => (And.intro h.1 (stays_of h'.1 h.2) : _ ∧ Stays N w' w'')
    have m2 := fun w' (h' : N ≤ w'.heap.size ∧ Below N w6 w') => (lmay x (.slice aM mn pM) (.slice aC cl pC) w' (HX6.out.2.1.below (by rw [hN]; exact h'.2)) hDS).mono fun e w'' h => (And.intro h.1 (stays_of h'.1 h.2) : _ ∧ Stays N w' w'')
    have m3 := fun w' (hb : Below w6.heap.size w6 w') => lmay x (.slice aM mn pM) (.slice aC cl pC) w' (HX6.out.2.1.below hb) hDS
    rw [HMD.out] at m1 m2 m3
    unfold actC at m1 m2 m3
    obtain ⟨x0, x1, x2, x3, x4, x5, x6, x7, x8, x9, x10, x11⟩ := actIn (t := x) (vm := .slice aM mn pM) (vc := .slice aC cl pC) HX6.out.1
    have HN := Lib.hid hN
    clear hN
    go_region_held3 (fun w' => N ≤ w'.heap.size ∧ Below N w6 w' ∧ ∀ b o, b < N → w'.cell? ⟨b, o, none⟩ = w6.cell? ⟨b, o, none⟩) (first | with_reducible exact keeps_next (by assumption) (by assumption) | exact keepsT_start hNW) (first | (go_at_call 41; (with_reducible refine Calls.mono (aw _ ?hk) ?_); (case hk => exact keepsT_two (by assumption)); rintro ev wz ⟨rfl, hzz⟩) | (go_at_call 42; (with_reducible refine Calls.mono (m1 _ ?hk) ?_); (case hk => exact keepsT_two (by assumption)); rintro ev wz ⟨rfl, hzz⟩) | (go_at_call 43; (with_reducible refine Calls.mono (m2 _ ?hk) ?_); (case hk => exact keepsT_two (by assumption)); rintro ev wz ⟨rfl, hzz⟩))
    rename_i hfin
    have HF := Lib.hid hfin.2.1
    clear hfin x0 x1 x2 x3 x4 x5 x6 x7 x8 x9 x10 x11 aw m1 m2
    have hb7 : Below w6.heap.size w6 wz := by rw [HN.out]; exact HF.out
    have hx7 := below_at hb7 (lt_heap HX6.out.1) HX6.out.1
    obtain ⟨x0, x1, x2, x3, x4, x5, x6, x7, x8, x9, x10, x11⟩ := actIn (t := x) (vm := .slice aM mn pM) (vc := .slice aC cl pC) hx7
    have c3 := m3 _ hb7
    clear hb7 hx7 m3
    go_wp2_with fail
    refine Calls.mono c3 ?_
    rintro e w8 ⟨rfl, hb8⟩
    have HB8 := Lib.hid (show Below w6.heap.size w6 w8 from (by rw [HN.out]; exact HF.out : Below w6.heap.size w6 wz).trans (hb8.mono (by rw [HN.out]; exact HF.out.size |> fun h => by have := HN.out; omega)))
    clear hb8 c3 x0 x1 x2 x3 x4 x5 x6 x7 x8 x9 x10 x11
    go_wp2_with fail
    go_ret
    exact ⟨rfl, HX6.out.2.2.trans (HB8.out.mono HX6.out.2.2.size)⟩
end Go.Proofs.YtpekpdceagdbeaaDoor
