/-
  The law of configurations as bytes: walked.
-/
import Derived.Test.YtbjjfidjggagnaaCpB
import Derived.Test.YtbjjfidjggagnaaConfN
namespace Go.Proofs.Ytbjjfidjggagnaa
open Go.RowKit
set_option linter.unusedVariables false
set_option linter.unusedSimpArgs false

def confShP : Sh := .two (.int .i64) (.two (.int .i64) (.two (.int .i64) (.two (.slice (.int .i64)) (.two (.slice (.int .i64)) .unit))))
theorem fits_intsP {w : World} {a : Option Addr} {len cap : Nat} (h : Fits w (.slice (.int .i64)) [.slice a len cap]) : ∃ l : List Int, l.length = len ∧ SR w (.slice a len cap) 1 l.length (nCells l) := by
  obtain ⟨h1, h2, h3⟩ := h.slice
  rcases h3 with h0 | ⟨b, off, rfl, hb, he⟩
  · subst h0
    exact ⟨[], rfl, a, cap, rfl, h1, h2, rfl, .inl rfl⟩
  · refine ⟨(List.range len).map fun i => match w.cell? ⟨b, off + i, none⟩ with | some (.int _ z) => z | _ => 0, by simp, ?_⟩
    refine ⟨_, cap, by simp, by simpa using h1, h2, by simp [nCells], .inr ⟨b, off, rfl, hb, fun j u hj => ?_⟩⟩
    have hjl : j < len := by
      have := (List.getElem?_eq_some_iff.1 hj).1
      simpa [nCells] using this
    obtain ⟨ys, hl, hc, z, rfl, -⟩ := he j hjl
    have hcell : w.cell? ⟨b, off + j, none⟩ = some (.int .i64 z) := by simpa [Sh.size] using hc 0 _ rfl
    rw [hcell, ← hj]
    simp [nCells, hjl, hcell]
theorem fits_conf {w : World} {ys : List Value} (h : Fits w confShP ys) : ∃ (c : CF), ∃ a1 q1 a2 q2, ys = [.int .i64 c.e, .int .i64 c.b, .int .i64 c.k, .slice a1 c.M.length q1, .slice a2 c.C.length q2] ∧ CFat c w (.slice a1 c.M.length q1) (.slice a2 c.C.length q2) := by
  obtain ⟨_, _, rfl, ⟨e, rfl, -⟩, _, _, rfl, ⟨b, rfl, -⟩, _, _, rfl, ⟨k, rfl, -⟩, x3, _, rfl, h3, x4, _, rfl, h4, rfl⟩ := h
  obtain ⟨ma, ml, mc, rfl, -⟩ := id h3
  obtain ⟨ca, cl, cc, rfl, -⟩ := id h4
  obtain ⟨M, rfl, hM⟩ := fits_intsP h3
  obtain ⟨C, rfl, hC⟩ := fits_intsP h4
  exact ⟨⟨e, b, k, M, C⟩, ma, mc, ca, cc, rfl, hM, hC⟩
theorem near11P (c : CF) (a5 a6 : Option Addr) (q5 q6 : Nat) (odd : Int) (w : World) (h : CFat c w (.slice a5 c.M.length q5) (.slice a6 c.C.length q6)) :
    Calls Try.prog 8 #[.agg #[.int .i64 c.e, .int .i64 c.b, .int .i64 c.k, .slice a5 c.M.length q5, .slice a6 c.C.length q6], .int .i64 odd] w fun ev w' => ∃ d : CF, ∃ d1 s1 d2 s2, ev = .returned (.agg #[.int .i64 d.e, .int .i64 d.b, .int .i64 d.k, .slice d1 d.M.length s1, .slice d2 d.C.length s2]) ∧ CFat d w' (.slice d1 d.M.length s1) (.slice d2 d.C.length s2) ∧ Below w.heap.size w w' := by
  refine (near_any c.e c.b c.k odd _ _ c.M c.C w h.1 h.2).mono ?_
  rintro ev w' ⟨v1, v2, rfl, h1, h2, hb⟩
  obtain ⟨d1, s1, rfl, -, -⟩ := h1.form
  obtain ⟨d2, s2, rfl, -, -⟩ := h2.form
  exact ⟨⟨nearE c.e odd, nearB c.b odd, nearK c.k odd, nearM c.b odd c.M c.C, nearC c.b odd c.M c.C⟩, d1, s1, d2, s2, rfl, ⟨h1, h2⟩, hb⟩
theorem lists_alike (M C : List Int) : (nodesB M 0 && nodesB C 1) = (nodesB M 0 && (nodesB C 0 && decide (0 < C.length))) := by rw [nodes_one]
theorem may_low {d : CF} (h : mayC d = true) : low63 [d.e, d.b, d.k] ∧ low63 d.M ∧ low63 d.C := by
  obtain ⟨h1, h2, h3⟩ := may_in h
  exact ⟨⟨by simp, fun x hx => by have := h1 x hx; omega⟩, ⟨by have := h2.1; omega, fun x hx => by have := h2.2 x hx; omega⟩, ⟨by have := h3.1; omega, fun x hx => by have := h3.2 x hx; omega⟩⟩
theorem staysC {f : FuncId} {args : Array Value} {w : World} {N : Nat} {r : Bool} (hN : N ≤ w.heap.size) (h : Calls Try.prog f args w fun e w' => e = .returned (.bool r) ∧ Below w.heap.size w w') : Calls Try.prog f args w fun e w' => e = .returned (.bool r) ∧ Stays N w w' := h.mono fun e w' ⟨h1, h2⟩ => ⟨h1, stays_of hN h2⟩
theorem staysQ {f : FuncId} {args : Array Value} {w : World} {N : Nat} {r : Bool} (hN : N ≤ w.heap.size) (h : Calls Try.prog f args w fun e w' => e = .returned (.bool r) ∧ w = w') : Calls Try.prog f args w fun e w' => e = .returned (.bool r) ∧ Stays N w w' := h.mono fun e w' ⟨h1, h2⟩ => ⟨h1, by subst h2; exact stays_refl hN⟩
theorem staysB {f : FuncId} {args : Array Value} {w : World} {N : Nat} {r : Bool} (hN : N ≤ w.heap.size) (h : Calls Try.prog f args w (BoolPost r w)) : Calls Try.prog f args w fun e w' => e = .returned (.bool r) ∧ Stays N w w' := h.mono fun e w' ⟨h1, q, h2⟩ => ⟨h1, by subst h2; exact stays_of hN (below_drewN' (Below.refl _ _) q)⟩
set_option maxHeartbeats 6400000 in
set_option maxRecDepth 100000 in
theorem confputs_law (ca : Array Value) (odd : Int) (w : World) (hf : Fits w confShP ca.toList) (hodd : (Lit.int .i64 odd).wf = true) :
    Calls Try.prog 3 #[.agg ca, .int .i64 odd] w fun e w' => e = .returned (.bool true) ∧ Below w.heap.size w w' := by
  obtain ⟨c, a1, q1, a2, q2, hc0, hc⟩ := fits_conf hf
  obtain rfl : ca = #[.int .i64 c.e, .int .i64 c.b, .int .i64 c.k, .slice a1 c.M.length q1, .slice a2 c.C.length q2] := by rw [← Array.toList_inj, hc0]
  clear hc0 hf
  have hx := heap_alloc_self w (.cells #[.int .i64 c.e, .int .i64 c.b, .int .i64 c.k, .slice a1 c.M.length q1, .slice a2 c.C.length q2] 24)
  have hb : Below w.heap.size w (w.alloc (.cells #[.int .i64 c.e, .int .i64 c.b, .int .i64 c.k, .slice a1 c.M.length q1, .slice a2 c.C.length q2] 24)) := (Below.refl _ _).alloc (Nat.le_refl _) _
  have cN := near11P c a1 a2 q1 q2 odd _ (hc.below hb)
  go_enter Try.func3, Try.ntmps3
  go_upto_region 1 with fail
  generalize w.alloc (.cells #[.int .i64 c.e, .int .i64 c.b, .int .i64 c.k, .slice a1 c.M.length q1, .slice a2 c.C.length q2] 24) = w1 at *
  have p0 := cell_atD hx 0 (v := .int .i64 c.e) rfl
  have p1 := cell_atD hx 1 (v := .int .i64 c.b) rfl
  have p2 := cell_atD hx 2 (v := .int .i64 c.k) rfl
  have p3 := cell_atD hx 3 (v := .slice a1 c.M.length q1) rfl
  have p4 := cell_atD hx 4 (v := .slice a2 c.C.length q2) rfl
  have HB := Lib.hid hb
  clear hx hb hc
  go_wp2_with fail
  refine Calls.mono cN ?_
  rintro ev w2 ⟨d, d1, s1, d2, s2, rfl, hd, hb2⟩
  have hy := heap_alloc_self w2 (.cells #[.int .i64 d.e, .int .i64 d.b, .int .i64 d.k, .slice d1 d.M.length s1, .slice d2 d.C.length s2] 24)
  have hba : Below w2.heap.size w2 (w2.alloc (.cells #[.int .i64 d.e, .int .i64 d.b, .int .i64 d.k, .slice d1 d.M.length s1, .slice d2 d.C.length s2] 24)) := (Below.refl _ _).alloc (Nat.le_refl _) _
  have hd3 := hd.below hba
  have hb3 := (HB.out.trans (hb2.mono HB.out.size)).trans (hba.mono (Nat.le_trans HB.out.size hb2.size))
  have hyl := lt_heap hy
  have H3 := Lib.hid (And.intro hy (And.intro hd3 hb3))
  clear hy hba hd hd3 hb3 hb2 HB cN hyl p0 p1 p2 p3 p4
  go_upto_region 2 with fail
  generalize w2.alloc (.cells #[.int .i64 d.e, .int .i64 d.b, .int .i64 d.k, .slice d1 d.M.length s1, .slice d2 d.C.length s2] 24) = w3 at *
  obtain ⟨hy, hd3, hb3⟩ := H3.out
  have y0 := cell_atD hy 0 (v := .int .i64 d.e) rfl
  have y1 := cell_atD hy 1 (v := .int .i64 d.b) rfl
  have y2 := cell_atD hy 2 (v := .int .i64 d.k) rfl
  have y3 := cell_atD hy 3 (v := .slice d1 d.M.length s1) rfl
  have y4 := cell_atD hy 4 (v := .slice d2 d.C.length s2) rfl
  obtain ⟨N, hN⟩ : ∃ N, w3.heap.size = N := ⟨_, rfl⟩
  have hNW : N ≤ w3.heap.size := by omega
  have hlt : w2.heap.size < N := by have := lt_heap hy; omega
  have hdd : ∀ w', Below N w3 w' → CFat d w' (.slice d1 d.M.length s1) (.slice d2 d.C.length s2) := fun w' h => hd3.below (by rw [hN]; exact h)
  obtain ⟨r1, hr1⟩ : ∃ r, r = mayC d := ⟨_, rfl⟩
  obtain ⟨r2, hr2⟩ : ∃ r, r = noneC d := ⟨_, rfl⟩
  obtain ⟨r3, hr3⟩ : ∃ r, r = (nodesB d.M 0 && (nodesB d.C 0 && decide (0 < d.C.length))) := ⟨_, rfl⟩
  have m1 := fun w' (h' : N ≤ w'.heap.size ∧ Below N w3 w') => staysC h'.1 (cmayD d d1 d2 s1 s2 w' (hdd w' h'.2))
  have m2 := fun w' (h' : N ≤ w'.heap.size ∧ Below N w3 w') => staysC h'.1 (rmayD d d1 d2 s1 s2 w' (hdd w' h'.2))
  have m3 := fun w' (h' : N ≤ w'.heap.size ∧ Below N w3 w') => staysC h'.1 (cnoneD d d1 d2 s1 s2 w')
  have m4 := fun w' (h' : N ≤ w'.heap.size ∧ Below N w3 w') => staysC h'.1 (rnoneD d d1 d2 s1 s2 w' (hdd w' h'.2))
  have m5 := fun w' (h' : N ≤ w'.heap.size ∧ Below N w3 w') => staysQ h'.1 (clistsD _ _ d.M d.C w' (hdd w' h'.2).1 (hdd w' h'.2).2)
  have m6 := fun w' (h' : N ≤ w'.heap.size ∧ Below N w3 w') => staysB h'.1 (lists_any _ _ d.M d.C w' (hdd w' h'.2).1 (hdd w' h'.2).2)
  have m0 := fun w' (h' : N ≤ w'.heap.size ∧ Below N w3 w') => staysC h'.1 (conf_awake w')
  rw [← hr1] at m1 m2
  rw [← hr2] at m3 m4
  simp only [lists_alike] at m6
  rw [← hr3] at m5 m6
  have HR := Lib.hid hr1
  clear hr1 hr2 hr3 hy hd3 hb3 hdd
  go_region_held3 (fun w' => N ≤ w'.heap.size ∧ Below N w3 w' ∧ ∀ b o, b < N → w'.cell? ⟨b, o, none⟩ = w3.cell? ⟨b, o, none⟩) (first | with_reducible exact keeps_next (by assumption) (by assumption) | exact keepsV_start hNW) (first | (go_at_call 9; (with_reducible refine Calls.mono (m0 _ ?hk) ?_); (case hk => exact keepsV_two (by assumption)); rintro ev wz ⟨rfl, hzz⟩) | (go_at_call 10; (with_reducible refine Calls.mono (m1 _ ?hk) ?_); (case hk => exact keepsV_two (by assumption)); rintro ev wz ⟨rfl, hzz⟩) | (go_at_call 11; (with_reducible refine Calls.mono (m2 _ ?hk) ?_); (case hk => exact keepsV_two (by assumption)); rintro ev wz ⟨rfl, hzz⟩) | (go_at_call 12; (with_reducible refine Calls.mono (m3 _ ?hk) ?_); (case hk => exact keepsV_two (by assumption)); rintro ev wz ⟨rfl, hzz⟩) | (go_at_call 13; (with_reducible refine Calls.mono (m4 _ ?hk) ?_); (case hk => exact keepsV_two (by assumption)); rintro ev wz ⟨rfl, hzz⟩) | (go_at_call 14; (with_reducible refine Calls.mono (m5 _ ?hk) ?_); (case hk => exact keepsV_two (by assumption)); rintro ev wz ⟨rfl, hzz⟩) | (go_at_call 15; (with_reducible refine Calls.mono (m6 _ ?hk) ?_); (case hk => exact keepsV_two (by assumption)); rintro ev wz ⟨rfl, hzz⟩))
  rename_i hfin
  have hb := hfin.2.1
  rw [← hN] at hb
  have H4 := Lib.hid hb
  have HR2 := HR
  clear hfin hb m0 m1 m2 m3 m4 m5 m6 hNW hlt hN y0 y1 y2 y3 y4
  generalize wz = w4 at *
  have hy := below_at H4.out (lt_heap H3.out.1) H3.out.1
  have hd := CFat.below H3.out.2.1 H4.out
  have y0 := cell_atD hy 0 (v := .int .i64 d.e) rfl
  have y1 := cell_atD hy 1 (v := .int .i64 d.b) rfl
  have y2 := cell_atD hy 2 (v := .int .i64 d.k) rfl
  have y3 := cell_atD hy 3 (v := .slice d1 d.M.length s1) rfl
  have y4 := cell_atD hy 4 (v := .slice d2 d.C.length s2) rfl
  have cm := rmayD d d1 d2 s1 s2 w4 hd
  clear hy hd
  rcases hm : mayC d
  · rw [hm] at cm
    clear hm
    go_wp2_with fail
    refine Calls.mono cm ?_
    rintro ev w5 ⟨rfl, hb5⟩
    have HZ := Lib.hid (H3.out.2.2.trans ((H4.out.trans (hb5.mono H4.out.size)).mono H3.out.2.2.size))
    clear hb5 cm y0 y1 y2 y3 y4
    go_wp2_with fail
    go_ret
    exact ⟨ret_bool rfl, HZ.out⟩
  · rw [hm] at cm
    have HM := Lib.hid hm
    obtain ⟨lo1, lo2, lo3⟩ := may_low hm
    have HLO := Lib.hid (And.intro lo1 (And.intro lo2 lo3))
    clear hm lo1 lo2 lo3
    go_wp2_with fail
    refine Calls.mono cm ?_
    rintro ev w5 ⟨rfl, hb5⟩
    have hb35 := H4.out.trans (hb5.mono H4.out.size)
    clear cm hb5 H4 y0 y1 y2 y3 y4
    have hy := below_at hb35 (lt_heap H3.out.1) H3.out.1
    have hd := CFat.below H3.out.2.1 hb35
    have y0 := cell_atD hy 0 (v := .int .i64 d.e) rfl
    have y1 := cell_atD hy 1 (v := .int .i64 d.b) rfl
    have y2 := cell_atD hy 2 (v := .int .i64 d.k) rfl
    have y3 := cell_atD hy 3 (v := .slice d1 d.M.length s1) rfl
    have y4 := cell_atD hy 4 (v := .slice d2 d.C.length s2) rfl
    have cp := cputC d d1 d2 s1 s2 w5 hd HLO.out.1 HLO.out.2.1 HLO.out.2.2
    have H5 := Lib.hid hb35
    clear hy hd hb35
    go_wp2_with fail
    refine Calls.mono cp ?_
    rintro ev w6 ⟨rfl, hb6⟩
    have hb36 := H5.out.trans (hb6.mono H5.out.size)
    clear cp hb6 H5 y0 y1 y2 y3 y4
    have H6 := Lib.hid hb36
    clear hb36
    have cf := from_any ⟨(putC d).toArray⟩ w6
    go_wp2_with fail
    refine Calls.mono cf ?_
    rintro ev w7 ⟨rfl, hw7⟩
    have hs : Src w7 w6.heap.size ⟨putC d ++ [], 0⟩ := by rw [hw7, List.append_nil]; exact heap_alloc_self w6 _
    have hb67 : Below w6.heap.size w6 w7 := by rw [hw7]; exact (Below.refl _ _).alloc (Nat.le_refl _) _
    have ct := ctake d [] HM.out w6.heap.size w7 hs
    have hsz : w6.heap.size < w7.heap.size := lt_heap hs
    have H7 := Lib.hid (And.intro (H6.out.trans (hb67.mono H6.out.size)) hsz)
    clear hw7 hs hb67 hsz cf
    go_wp2_with fail
    refine Calls.mono ct ?_
    rintro ev w8 ⟨e1, u1, e2, u2, rfl, ho, hs8, hO8⟩
    have hb38 : Below w3.heap.size w3 w8 := H7.out.1.trans (hO8.below H6.out.size H7.out.1.size)
    have hyy := heap_alloc_self w8 (.cells #[.int .i64 d.e, .int .i64 d.b, .int .i64 d.k, .slice e1 d.M.length u1, .slice e2 d.C.length u2] 24)
    have hba : Below w8.heap.size w8 (w8.alloc (.cells #[.int .i64 d.e, .int .i64 d.b, .int .i64 d.k, .slice e1 d.M.length u1, .slice e2 d.C.length u2] 24)) := (Below.refl _ _).alloc (Nat.le_refl _) _
    have hz8 := hO8.size
    have H8 := Lib.hid (And.intro hyy (And.intro (CFO.below ho hba) (And.intro (below_at hba (lt_heap hs8) hs8) (And.intro (hb38.trans (hba.mono hb38.size)) hz8))))
    clear ct ho hs8 hO8 hb38 hyy hba hz8
    go_upto_region 9 with fail
    generalize w8.alloc (.cells #[.int .i64 d.e, .int .i64 d.b, .int .i64 d.k, .slice e1 d.M.length u1, .slice e2 d.C.length u2] 24) = w9 at *
    obtain ⟨hyy, ho, hs9, hb39, hz8⟩ := H8.out
    clear H8
    have hy := below_at hb39 (lt_heap H3.out.1) H3.out.1
    have hd := CFat.below H3.out.2.1 hb39
    have y0 := cell_atD hy 0 (v := .int .i64 d.e) rfl
    have y1 := cell_atD hy 1 (v := .int .i64 d.b) rfl
    have y2 := cell_atD hy 2 (v := .int .i64 d.k) rfl
    have y3 := cell_atD hy 3 (v := .slice d1 d.M.length s1) rfl
    have y4 := cell_atD hy 4 (v := .slice d2 d.C.length s2) rfl
    have cr := rputC d d1 d2 s1 s2 w9 hd HLO.out.1 HLO.out.2.1 HLO.out.2.2
    have H9 := Lib.hid (And.intro hyy (And.intro ho (And.intro hs9 (And.intro hb39 hz8))))
    clear hyy ho hs9 hb39 hz8 hy hd
    have hsr : Src w9 w6.heap.size ⟨[], 0⟩ := H9.out.2.2.1
    clear hsr
    go_wp2_with fail
    refine Calls.mono cr ?_
    rintro ev wa ⟨rfl, hba⟩
    have hsa : Src wa w6.heap.size ⟨[], 0⟩ := below_at hba (lt_heap H9.out.2.2.1) H9.out.2.2.1
    have hya := below_at hba (lt_heap H9.out.1) H9.out.1
    have hoa := CFO.below H9.out.2.1 hba
    have hb3a := H9.out.2.2.2.1.trans (hba.mono H9.out.2.2.2.1.size)
    have cE := end_src w6.heap.size ⟨[], 0⟩ wa hsa
    have he0 : (⟨[], 0⟩ : RS).endS.e = 0 := by decide
    rw [he0] at cE
    have HA := Lib.hid (And.intro hya (And.intro hoa (And.intro hb3a H9.out.2.2.2.2)))
    clear hba hsa hya hoa hb3a he0 cr H9 y0 y1 y2 y3 y4
    go_wp2_with fail
    refine Calls.mono cE ?_
    rintro ev wb ⟨rfl, -, hOb⟩
    have h78 := H7.out.2
    have hz8 := HA.out.2.2.2
    have hb3b : Below w3.heap.size w3 wb := HA.out.2.2.1.trans (hOb.below H6.out.size HA.out.2.2.1.size)
    have hyb : wb.heap[w8.heap.size]? = some _ := (hOb.block _ (lt_heap HA.out.1) (by omega)).trans HA.out.1
    have hob := CFO.only HA.out.2.1 hOb (by omega)
    have hy := below_at hb3b (lt_heap H3.out.1) H3.out.1
    have hd := CFat.below H3.out.2.1 hb3b
    have y0 := cell_atD hy 0 (v := .int .i64 d.e) rfl
    have y1 := cell_atD hy 1 (v := .int .i64 d.b) rfl
    have y2 := cell_atD hy 2 (v := .int .i64 d.k) rfl
    have y3 := cell_atD hy 3 (v := .slice d1 d.M.length s1) rfl
    have y4 := cell_atD hy 4 (v := .slice d2 d.C.length s2) rfl
    have z0 := cell_atD hyb 0 (v := .int .i64 d.e) rfl
    have z1 := cell_atD hyb 1 (v := .int .i64 d.b) rfl
    have z2 := cell_atD hyb 2 (v := .int .i64 d.k) rfl
    have z3 := cell_atD hyb 3 (v := .slice e1 d.M.length u1) rfl
    have z4 := cell_atD hyb 4 (v := .slice e2 d.C.length u2) rfl
    have cs := rsameD d d d1 d2 e1 e2 s1 s2 u1 u2 wb hd hob.at_
    rw [sameC_self] at cs
    have HB := Lib.hid (And.intro hyb (And.intro hob hb3b))
    clear hOb h78 hz8 hyb hob hb3b hy hd cE
    go_wp2_with fail
    refine Calls.mono cs ?_
    rintro ev wc ⟨rfl, hbc⟩
    have hb3c := HB.out.2.2.trans (hbc.mono HB.out.2.2.size)
    have hyc := below_at hbc (lt_heap HB.out.1) HB.out.1
    have hoc := CFO.below HB.out.2.1 hbc
    clear cs y0 y1 y2 y3 y4 z0 z1 z2 z3 z4
    have hy := below_at hb3c (lt_heap H3.out.1) H3.out.1
    have hd := CFat.below H3.out.2.1 hb3c
    have y0 := cell_atD hy 0 (v := .int .i64 d.e) rfl
    have y1 := cell_atD hy 1 (v := .int .i64 d.b) rfl
    have y2 := cell_atD hy 2 (v := .int .i64 d.k) rfl
    have y3 := cell_atD hy 3 (v := .slice d1 d.M.length s1) rfl
    have y4 := cell_atD hy 4 (v := .slice d2 d.C.length s2) rfl
    have z0 := cell_atD hyc 0 (v := .int .i64 d.e) rfl
    have z1 := cell_atD hyc 1 (v := .int .i64 d.b) rfl
    have z2 := cell_atD hyc 2 (v := .int .i64 d.k) rfl
    have z3 := cell_atD hyc 3 (v := .slice e1 d.M.length u1) rfl
    have z4 := cell_atD hyc 4 (v := .slice e2 d.C.length u2) rfl
    have cs := csameD d d d1 d2 e1 e2 s1 s2 u1 u2 wc hd hoc.at_
    rw [sameC_self] at cs
    have HC := Lib.hid hb3c
    clear hbc hb3c hyc hoc hy hd HB
    go_wp2_with fail
    refine Calls.mono cs ?_
    rintro ev wd ⟨rfl, hbd⟩
    have HZ := Lib.hid (H3.out.2.2.trans ((HC.out.trans (hbd.mono HC.out.size)).mono H3.out.2.2.size))
    clear hbd cs
    go_wp2_with fail
    go_ret
    exact ⟨ret_bool rfl, HZ.out⟩
end Go.Proofs.Ytbjjfidjggagnaa
