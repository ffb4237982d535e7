/-
  PlaceMends' walk.
-/
import Derived.Test.YtadejhlljdcocaaPlcH
namespace Go.Proofs.Ytadejhlljdcocaa
open Go.RowKit
set_option linter.unusedVariables false
set_option linter.unusedSimpArgs false

theorem fits_up5 {w : World} {d : Array Value} (h : Fits w (Sh.rep .bool 5) d.toList) : ∃ u : Nat → Bool, d = upA u := by
  obtain ⟨x0, y0, e, ⟨z0, rfl⟩, x1, y1, rfl, ⟨z1, rfl⟩, x2, y2, rfl, ⟨z2, rfl⟩, x3, y3, rfl, ⟨z3, rfl⟩, x4, y4, rfl, ⟨z4, rfl⟩, rfl⟩ := h
  exact ⟨fun j => if j = 0 then z0 else if j = 1 then z1 else if j = 2 then z2 else if j = 3 then z3 else z4, by cases d; simp_all [upA]⟩
set_option maxHeartbeats 12800000 in
set_option maxRecDepth 100000 in
theorem placemends_law (c d : Array Value) (w : World) (hf : Fits w confSh c.toList) (hd : Fits w (Sh.rep .bool 5) d.toList) :
    Calls Try.prog 12 #[.agg c, .agg d] w fun v w' => v = .returned (.bool true) ∧ Below w.heap.size w w' := by
  obtain ⟨e, b, k, m, n, M0, C0, rfl, hm, hc⟩ := fits_conf hf
  obtain ⟨u, rfl⟩ := fits_up5 hd
  obtain ⟨ma, mc, rfl, hmc, hmm⟩ := hm.form
  obtain ⟨ca, cc, rfl, hcc, hcm⟩ := hc.form
  have bx : Below w.heap.size w ((w.alloc (.cells (confA e b k (.slice ma M0.length mc) (.slice ca C0.length cc)) 31)).alloc (.cells (upA u) 111)) := ((Below.refl _ _).alloc (Nat.le_refl _) _).alloc (by simp) _
  have cn := near_any e b k 5 _ _ M0 C0 _ (hm.below bx) (hc.below bx)
  have hx := pfar (heap_alloc_self w (.cells (confA e b k (.slice ma M0.length mc) (.slice ca C0.length cc)) 31)) (.cells (upA u) 111)
  have hy := heap_alloc_self (w.alloc (.cells (confA e b k (.slice ma M0.length mc) (.slice ca C0.length cc)) 31)) (.cells (upA u) 111)
  have hz : (w.alloc (.cells (confA e b k (.slice ma M0.length mc) (.slice ca C0.length cc)) 31)).heap.size = w.heap.size + 1 := by simp
  rw [hz] at hy
  obtain ⟨hMn, hMl⟩ := nearM_ok b M0 C0
  obtain ⟨hCn, hCl⟩ := nearC_ok b M0 C0
  unfold confA upA at *
  have BX := Lib.hid bx
  clear hm hc bx hf hd hz
  go_enter Try.func12, Try.ntmps12
  go_upto_region 1 with fail
  generalize (w.alloc (.cells #[.int .i64 e, .int .i64 b, .int .i64 k, .slice ma M0.length mc, .slice ca C0.length cc] 31)).alloc (.cells #[.bool (u 0), .bool (u 1), .bool (u 2), .bool (u 3), .bool (u 4)] 111) = w0 at *
  have c0 := pcell hx 0 (v := .int .i64 e) rfl
  have c1 := pcell hx 1 (v := .int .i64 b) rfl
  have c2 := pcell hx 2 (v := .int .i64 k) rfl
  have c3 := pcell hx 3 (v := .slice ma M0.length mc) rfl
  have c4 := pcell hx 4 (v := .slice ca C0.length cc) rfl
  have HY := Lib.hid hy
  clear hx hy
  go_wp2_with fail
  refine Calls.mono cn ?_
  rintro ev w1 ⟨v1, v2, rfl, s1, s2, hb1⟩
  unfold confA
  obtain ⟨a1, p1, rfl, hp1, hq1⟩ := s1.form
  obtain ⟨a2, p2, rfl, hp2, hq2⟩ := s2.form
  unfold maxLen at hq1 hq2
  generalize nearE e 5 = E at *
  generalize nearB b 5 = G at *
  generalize nearK k 5 = K at *
  generalize nearM b 5 M0 C0 = M at *
  generalize nearC b 5 M0 C0 = C at *
  have hb2 := hb1.alloc hb1.size (.cells #[.int .i64 E, .int .i64 G, .int .i64 K, .slice a1 M.length p1, .slice a2 C.length p2] 31)
  have hb2' := (Below.refl w1.heap.size w1).alloc (Nat.le_refl _) (.cells #[.int .i64 E, .int .i64 G, .int .i64 K, .slice a1 M.length p1, .slice a2 C.length p2] 31)
  have hx := heap_alloc_self w1 (.cells #[.int .i64 E, .int .i64 G, .int .i64 K, .slice a1 M.length p1, .slice a2 C.length p2] 31)
  have hy2 := below_at hb2 (lt_heap HY.out) HY.out
  have HS := Lib.hid (And.intro (s1.below hb2') (And.intro (s2.below hb2') (BX.out.trans (hb2.mono BX.out.size))))
  clear s1 s2 hb1 hb2 hb2' cn c0 c1 c2 c3 c4 HY
  go_upto_region 2 with fail
  generalize w1.alloc (.cells #[.int .i64 E, .int .i64 G, .int .i64 K, .slice a1 M.length p1, .slice a2 C.length p2] 31) = w2 at *
  have c0 := pcell hx 0 (v := .int .i64 E) rfl
  have c1 := pcell hx 1 (v := .int .i64 G) rfl
  have c2 := pcell hx 2 (v := .int .i64 K) rfl
  have c3 := pcell hx 3 (v := .slice a1 M.length p1) rfl
  have c4 := pcell hx 4 (v := .slice a2 C.length p2) rfl
  have d0 := pcell hy2 0 (v := .bool (u 0)) rfl
  have d1 := pcell hy2 1 (v := .bool (u 1)) rfl
  have d2 := pcell hy2 2 (v := .bool (u 2)) rfl
  have d3 := pcell hy2 3 (v := .bool (u 3)) rfl
  have d4 := pcell hy2 4 (v := .bool (u 4)) rfl
  have cm := pmend u E G K _ _ M C (by omega) (by omega) w2 HS.out.1 HS.out.2.1
  have cq := fun w' => many41 u w'
  unfold confA upA at cm
  unfold upA at cq
  have HXY := Lib.hid (And.intro hx hy2)
  clear hx hy2
  go_wp2_with fail
  refine Calls.mono cm ?_
  rintro ev w3 ⟨m1, m2, rfl, t1, t2, hb3⟩
  have hx := below_at hb3 (lt_heap HXY.out.1) HXY.out.1
  have hy := below_at hb3 (lt_heap HXY.out.2) HXY.out.2
  obtain ⟨am, pm, rfl, hm1, hm2⟩ := t1.form
  obtain ⟨al, pl, rfl, hl1, hl2⟩ := t2.form
  unfold maxLen at hm2 hl2
  have HS3 := Lib.hid (And.intro t1 (And.intro t2 (And.intro (HS.out.1.below hb3) (And.intro (HS.out.2.1.below hb3) (HS.out.2.2.trans (hb3.mono HS.out.2.2.size))))))
  clear t1 t2 hb3 cm c0 c1 c2 c3 c4 d0 d1 d2 d3 d4 HS HXY
  have d0 := pcell hy 0 (v := .bool (u 0)) rfl
  have d1 := pcell hy 1 (v := .bool (u 1)) rfl
  have d2 := pcell hy 2 (v := .bool (u 2)) rfl
  have d3 := pcell hy 3 (v := .bool (u 3)) rfl
  have d4 := pcell hy 4 (v := .bool (u 4)) rfl
  have HXY := Lib.hid (And.intro hx hy)
  clear hx hy
  go_wp2_with fail
  refine Calls.mono (cq _) ?_
  rintro ev w4 ⟨rfl, hb4⟩
  have hx := below_at hb4 (lt_heap HXY.out.1) HXY.out.1
  have hy := below_at hb4 (lt_heap HXY.out.2) HXY.out.2
  have HS4 := Lib.hid (And.intro (HS3.out.1.below hb4) (And.intro (HS3.out.2.1.below hb4) (And.intro (HS3.out.2.2.1.below hb4) (And.intro (HS3.out.2.2.2.1.below hb4) (HS3.out.2.2.2.2.trans (hb4.mono HS3.out.2.2.2.2.size))))))
  clear hb4 cq d0 d1 d2 d3 d4 HXY HS3
  have ca := fun w => awake41 w
  have hul := upK_le u 5
  by_cases hn0 : (upK u 5).length = 0
  · have e1 : mendM u M C = [] := by unfold mendM; rw [if_pos hn0]
    have e2 : mendC u M C = [] := by unfold mendC; rw [if_pos hn0]
    rw [e1, e2]
    rw [hn0]
    have HB := Lib.hid HS4.out.2.2.2.2
    clear HS4 hx hy hMn hMl hCn hCl hm1 hl1 e1 e2
    go_wp2_with fail
    refine Calls.mono (ca _) ?_
    rintro ev w5 ⟨rfl, hb5⟩
    have HB5 := Lib.hid (HB.out.trans (hb5.mono HB.out.size))
    clear hb5
    go_wp2_with fail
    go_ret
    exact ⟨rfl, HB5.out⟩
  · obtain ⟨hrn, hrl, hrm⟩ := rise_ok u (ldF M C)
    have e1 : mendM u M C = fillL M (riseL u (ldF M C)) (fitN M.length 0) := by unfold mendM; rw [if_neg hn0]
    have e2 : mendC u M C = fillL C (riseL u (ldF M C)) (fitN C.length 1) := by unfold mendC; rw [if_neg hn0]
    obtain ⟨f1, f2, f3, tM, f4⟩ := fill_does M (riseL u (ldF M C)) (fitN M.length 0) hMn hrn (by unfold fitN; omega)
    obtain ⟨g1, g2, g3, tC, g4⟩ := fill_does C (riseL u (ldF M C)) (fitN C.length 1) hCn hrn (by unfold fitN; omega)
    rw [← e1] at f1 f2 f3 f4
    rw [← e2] at g1 g2 g3 g4
    generalize mendM u M C = R1 at *
    generalize mendC u M C = R2 at *
    generalize riseL u (ldF M C) = U at *
    have hr1 : R1.length = min M.length (upK u 5).length := by rw [f3, hrl]; unfold fitN; omega
    have hr2 : R2.length = min (max C.length 1) (upK u 5).length := by rw [g3, hrl]; unfold fitN; omega
    have cg1 := fun w' (h : SR w' (.slice am R1.length pm) 1 R1.length (nCells R1)) => good41 u R1 f1 (fun x hx => (hrm x).1 (f2 x hx)) (by omega) w' _ h
    have cg2 := fun w' (h : SR w' (.slice al R2.length pl) 1 R2.length (nCells R2)) => good41 u R2 g1 (fun x hx => (hrm x).1 (g2 x hx)) (by omega) w' _ h
    have cs1 := fun w' (h : SR w' (.slice a1 M.length p1) 1 M.length (nCells M)) (h2 : SR w' (.slice am R1.length pm) 1 R1.length (nCells R1)) => stays41 u M U tM hrm (by omega) w' _ (.slice am R1.length pm) h (by rw [← f4]; exact h2)
    have cs2 := fun w' (h : SR w' (.slice a2 C.length p2) 1 C.length (nCells C)) (h2 : SR w' (.slice al R2.length pl) 1 R2.length (nCells R2)) => stays41 u C U tC hrm (by omega) w' _ (.slice al R2.length pl) h (by rw [← g4]; exact h2)
    unfold upA at cg1 cg2 cs1 cs2
    obtain ⟨nn, hnn⟩ : ∃ nn, (upK u 5).length = nn := ⟨_, rfl⟩
    rw [hnn] at hn0 hr1 hr2 hul
    rw [hnn]
    have hx1 := cg1 _ HS4.out.1
    have H1 := Lib.hid (And.intro cg2 (And.intro cs1 cs2))
    have HR := Lib.hid (And.intro hr1 hr2)
    clear e1 e2 f1 f2 f3 f4 g1 g2 g3 g4 hrn hrl hrm cg1 cg2 cs1 cs2 hnn hMn hCn
    obtain ⟨r1, hr1e⟩ : ∃ r1, R1.length = r1 := ⟨_, rfl⟩
    obtain ⟨r2, hr2e⟩ : ∃ r2, R2.length = r2 := ⟨_, rfl⟩
    obtain ⟨ml, hmle⟩ : ∃ x, M.length = x := ⟨_, rfl⟩
    obtain ⟨cl, hcle⟩ : ∃ x, C.length = x := ⟨_, rfl⟩
    rw [hr1e] at hr1 hm1
    rw [hr2e] at hr2 hl1
    rw [hmle] at hr1 hMl hp1
    rw [hcle] at hr2 hCl hp2
    have hmin1 : (min (ml : Int) (nn : Int)) = (r1 : Int) := by omega
    have hmin2 : (min (max (cl : Int) 1) (nn : Int)) = (r2 : Int) := by omega
    have HEQ := Lib.hid (And.intro hr1e (And.intro hr2e (And.intro hmle hcle)))
    rw [hr1e] at hx1
    simp only [hr1e, hr2e, hmle, hcle] at H1 HS4 ⊢
    have hx' := hx
    rw [hmle, hcle] at hx'
    clear hr1e hr2e hmle hcle hr1 hr2 hx
    have d0 := pcell hy 0 (v := .bool (u 0)) rfl
    have d1 := pcell hy 1 (v := .bool (u 1)) rfl
    have d2 := pcell hy 2 (v := .bool (u 2)) rfl
    have d3 := pcell hy 3 (v := .bool (u 3)) rfl
    have d4 := pcell hy 4 (v := .bool (u 4)) rfl
    have HXY := Lib.hid (And.intro hx' hy)
    clear hx' hy HR
    go_wp2_with fail
    refine Calls.mono hx1 ?_
    rintro ev w5 ⟨rfl, hb5⟩
    clear d0 d1 d2 d3 d4 hx1
    have hx' := below_at hb5 (lt_heap HXY.out.1) HXY.out.1
    have hy := below_at hb5 (lt_heap HXY.out.2) HXY.out.2
    have HS5 := Lib.hid (And.intro (HS4.out.1.below hb5) (And.intro (HS4.out.2.1.below hb5) (And.intro (HS4.out.2.2.1.below hb5) (And.intro (HS4.out.2.2.2.1.below hb5) (HS4.out.2.2.2.2.trans (hb5.mono HS4.out.2.2.2.2.size))))))
    clear HXY hb5 HS4
    have d0 := pcell hy 0 (v := .bool (u 0)) rfl
    have d1 := pcell hy 1 (v := .bool (u 1)) rfl
    have d2 := pcell hy 2 (v := .bool (u 2)) rfl
    have d3 := pcell hy 3 (v := .bool (u 3)) rfl
    have d4 := pcell hy 4 (v := .bool (u 4)) rfl
    have HXY := Lib.hid (And.intro hx' hy)
    have hg2 := H1.out.1 _ HS5.out.2.1
    clear hx' hy
    go_wp2_with fail
    refine Calls.mono hg2 ?_
    rintro ev w6 ⟨rfl, hb6⟩
    clear d0 d1 d2 d3 d4 hg2
    have hx' := below_at hb6 (lt_heap HXY.out.1) HXY.out.1
    have hy := below_at hb6 (lt_heap HXY.out.2) HXY.out.2
    have HS6 := Lib.hid (And.intro (HS5.out.1.below hb6) (And.intro (HS5.out.2.1.below hb6) (And.intro (HS5.out.2.2.1.below hb6) (And.intro (HS5.out.2.2.2.1.below hb6) (HS5.out.2.2.2.2.trans (hb6.mono HS5.out.2.2.2.2.size))))))
    clear HXY hb6 HS5
    have c0 := pcell hx' 0 (v := .int .i64 E) rfl
    have c1 := pcell hx' 1 (v := .int .i64 G) rfl
    have c2 := pcell hx' 2 (v := .int .i64 K) rfl
    have c3 := pcell hx' 3 (v := .slice a1 ml p1) rfl
    have c4 := pcell hx' 4 (v := .slice a2 cl p2) rfl
    have HXY := Lib.hid (And.intro hx' hy)
    clear hx' hy
    go_wp2_with fail
    refine Calls.mono (ca _) ?_
    rintro ev w7 ⟨rfl, hb7⟩
    clear c0 c1 c2 c3 c4 ca hmin1 hmin2
    have hx' := below_at hb7 (lt_heap HXY.out.1) HXY.out.1
    have hy := below_at hb7 (lt_heap HXY.out.2) HXY.out.2
    have HS7 := Lib.hid (And.intro (HS6.out.1.below hb7) (And.intro (HS6.out.2.1.below hb7) (And.intro (HS6.out.2.2.1.below hb7) (And.intro (HS6.out.2.2.2.1.below hb7) (HS6.out.2.2.2.2.trans (hb7.mono HS6.out.2.2.2.2.size))))))
    clear HXY hb7 HS6
    have c0 := pcell hx' 0 (v := .int .i64 E) rfl
    have c1 := pcell hx' 1 (v := .int .i64 G) rfl
    have c2 := pcell hx' 2 (v := .int .i64 K) rfl
    have c3 := pcell hx' 3 (v := .slice a1 ml p1) rfl
    have c4 := pcell hx' 4 (v := .slice a2 cl p2) rfl
    have d0 := pcell hy 0 (v := .bool (u 0)) rfl
    have d1 := pcell hy 1 (v := .bool (u 1)) rfl
    have d2 := pcell hy 2 (v := .bool (u 2)) rfl
    have d3 := pcell hy 3 (v := .bool (u 3)) rfl
    have d4 := pcell hy 4 (v := .bool (u 4)) rfl
    have HXY := Lib.hid (And.intro hx' hy)
    have hs2 := H1.out.2.2 _ HS7.out.2.2.2.1 HS7.out.2.1
    clear hx' hy
    go_wp2_with fail
    refine Calls.mono hs2 ?_
    rintro ev w8 ⟨rfl, hb8⟩
    clear c0 c1 c2 c3 c4 d0 d1 d2 d3 d4 hs2
    have hx' := below_at hb8 (lt_heap HXY.out.1) HXY.out.1
    have hy := below_at hb8 (lt_heap HXY.out.2) HXY.out.2
    have HS8 := Lib.hid (And.intro (HS7.out.1.below hb8) (And.intro (HS7.out.2.1.below hb8) (And.intro (HS7.out.2.2.1.below hb8) (And.intro (HS7.out.2.2.2.1.below hb8) (HS7.out.2.2.2.2.trans (hb8.mono HS7.out.2.2.2.2.size))))))
    clear HXY hb8 HS7
    have c0 := pcell hx' 0 (v := .int .i64 E) rfl
    have c1 := pcell hx' 1 (v := .int .i64 G) rfl
    have c2 := pcell hx' 2 (v := .int .i64 K) rfl
    have c3 := pcell hx' 3 (v := .slice a1 ml p1) rfl
    have c4 := pcell hx' 4 (v := .slice a2 cl p2) rfl
    have d0 := pcell hy 0 (v := .bool (u 0)) rfl
    have d1 := pcell hy 1 (v := .bool (u 1)) rfl
    have d2 := pcell hy 2 (v := .bool (u 2)) rfl
    have d3 := pcell hy 3 (v := .bool (u 3)) rfl
    have d4 := pcell hy 4 (v := .bool (u 4)) rfl
    have hs1 := H1.out.2.1 _ HS8.out.2.2.1 HS8.out.1
    clear hx' hy
    go_wp2_with fail
    refine Calls.mono hs1 ?_
    rintro ev w9 ⟨rfl, hb9⟩
    have HB9 := Lib.hid (HS8.out.2.2.2.2.trans (hb9.mono HS8.out.2.2.2.2.size))
    clear hb9 hs1 c0 c1 c2 c3 c4 d0 d1 d2 d3 d4
    go_wp2_with fail
    go_ret
    exact ⟨rfl, HB9.out⟩
end Go.Proofs.Ytadejhlljdcocaa
