/-
  Several texts, laid together.
-/
import Derived.Test.YtadejhlljdcocaaMg21
import Derived.Test.YtadejhlljdcocaaMg9
import Derived.Test.YtadejhlljdcocaaMg19
/-
  PlaceLoad's walk.
-/


namespace Go.Proofs.Ytadejhlljdcocaa
open Go.RowKit
set_option linter.unusedVariables false
set_option linter.unusedSimpArgs false

/-- a slice of integers that came in by its shape -/
theorem fits_intsP {w : World} {a : Option Addr} {len cap : Nat} (h : Fits w (.slice (.int .i64)) [.slice a len cap]) : ∃ l : List Int, l.length = len ∧ SR w (.slice a len cap) 1 l.length (nCells l) := by
  obtain ⟨h1, h2, h3⟩ := h.slice
  rcases h3 with h0 | ⟨b, off, rfl, hb, he⟩
  · subst h0
    exact ⟨[], rfl, a, cap, rfl, h1, h2, rfl, .inl rfl⟩
  · refine ⟨(List.range len).map fun i => match w.cell? ⟨b, off + i, none⟩ with | some (.int _ z) => z | _ => 0, by simp, ?_⟩
    refine ⟨_, cap, by simp, by simpa using h1, h2, by simp [nCells], .inr ⟨b, off, rfl, hb, fun j u hj => ?_⟩⟩
    have hjl : j < len := by
      have := (List.getElem?_eq_some_iff.1 hj).1
      simpa [nCells] using this
    obtain ⟨ys, hl, hc, z, rfl, -⟩ := he j hjl
    have hcell : w.cell? ⟨b, off + j, none⟩ = some (.int .i64 z) := by simpa [Sh.size] using hc 0 _ rfl
    rw [hcell, ← hj]
    simp [nCells, hjl, hcell]
abbrev confSh : Sh := .two (.int .i64) (.two (.int .i64) (.two (.int .i64) (.two (.slice (.int .i64)) (.two (.slice (.int .i64)) .unit))))
/-- a configuration that came in -/
theorem fits_conf {w : World} {c : Array Value} (h : Fits w confSh c.toList) : ∃ (e b k : Int) (m n : Value) (M C : List Int), c = confA e b k m n ∧ SR w m 1 M.length (nCells M) ∧ SR w n 1 C.length (nCells C) := by
  obtain ⟨x0, y0, h0, ⟨e, rfl, -⟩, x1, y1, rfl, ⟨b, rfl, -⟩, x2, y2, rfl, ⟨k, rfl, -⟩, x3, y3, rfl, hM, x4, y4, rfl, hC, rfl⟩ := h
  obtain ⟨ma, ml, mc, rfl, hM'⟩ : ∃ a l q, x3 = [.slice a l q] ∧ Fits w (.slice (.int .i64)) [.slice a l q] := by
    obtain ⟨a, l, q, rfl, h⟩ := hM
    exact ⟨a, l, q, rfl, a, l, q, rfl, h⟩
  obtain ⟨ca, cl, cc, rfl, hC'⟩ : ∃ a l q, x4 = [.slice a l q] ∧ Fits w (.slice (.int .i64)) [.slice a l q] := by
    obtain ⟨a, l, q, rfl, h⟩ := hC
    exact ⟨a, l, q, rfl, a, l, q, rfl, h⟩
  obtain ⟨M0, hm1, hm0⟩ := fits_intsP hM'
  obtain ⟨C0, hc1, hc0⟩ := fits_intsP hC'
  subst hm1 hc1
  refine ⟨e, b, k, _, _, M0, C0, ?_, hm0, hc0⟩
  obtain ⟨l⟩ := c
  simp at h0
  rw [h0]
  rfl
set_option maxHeartbeats 6400000 in
set_option maxRecDepth 100000 in
theorem placeload_law (c : Array Value) (w : World) (hf : Fits w confSh c.toList) :
    Calls Try.prog 13 #[.agg c] w fun v w' => v = .returned (.bool true) ∧ Below w.heap.size w w' := by
  obtain ⟨e, b, k, m, n, M0, C0, rfl, hm, hc⟩ := fits_conf hf
  obtain ⟨ma, mc, rfl, hmc, hmm⟩ := hm.form
  obtain ⟨ca, cc, rfl, hcc, hcm⟩ := hc.form
  have bx : Below w.heap.size w (w.alloc (.cells (confA e b k (.slice ma M0.length mc) (.slice ca C0.length cc)) 31)) := (Below.refl _ _).alloc (Nat.le_refl _) _
  have cn := near_any e b k 5 _ _ M0 C0 _ (hm.below bx) (hc.below bx)
  have hx := heap_alloc_self w (.cells (confA e b k (.slice ma M0.length mc) (.slice ca C0.length cc)) 31)
  have BX := Lib.hid bx
  clear hm hc bx hf
  unfold confA at cn hx BX
  unfold confA
  go_enter Try.func13, Try.ntmps13
  go_upto_region 1 with fail
  generalize w.alloc (.cells #[.int .i64 e, .int .i64 b, .int .i64 k, .slice ma M0.length mc, .slice ca C0.length cc] 31) = w0 at *
  have c0 := pcell hx 0 (v := .int .i64 e) rfl
  have c1 := pcell hx 1 (v := .int .i64 b) rfl
  have c2 := pcell hx 2 (v := .int .i64 k) rfl
  have c3 := pcell hx 3 (v := .slice ma M0.length mc) rfl
  have c4 := pcell hx 4 (v := .slice ca C0.length cc) rfl
  clear hx
  go_wp2_with fail
  refine Calls.mono cn ?_
  rintro ev w1 ⟨v1, v2, rfl, s1, s2, hb1⟩
  unfold confA
  obtain ⟨a1, p1, rfl, hp1, hq1⟩ := s1.form
  obtain ⟨a2, p2, rfl, hp2, hq2⟩ := s2.form
  unfold maxLen at hq1 hq2
  generalize nearE e 5 = E at *
  generalize nearB b 5 = G at *
  generalize nearK k 5 = K at *
  generalize nearM b 5 M0 C0 = M at *
  generalize nearC b 5 M0 C0 = C at *
  have hb2 := (Below.refl w1.heap.size w1).alloc (Nat.le_refl _) (.cells #[.int .i64 E, .int .i64 G, .int .i64 K, .slice a1 M.length p1, .slice a2 C.length p2] 31)
  have hx := heap_alloc_self w1 (.cells #[.int .i64 E, .int .i64 G, .int .i64 K, .slice a1 M.length p1, .slice a2 C.length p2] 31)
  have HS := Lib.hid (And.intro (s1.below hb2) (And.intro (s2.below hb2) (BX.out.trans ((hb1.trans (hb2.mono hb1.size)).mono BX.out.size))))
  clear s1 s2 hb1 hb2 cn c0 c1 c2 c3 c4
  go_upto_region 2 with fail
  generalize w1.alloc (.cells #[.int .i64 E, .int .i64 G, .int .i64 K, .slice a1 M.length p1, .slice a2 C.length p2] 31) = w2 at *
  have c0 := pcell hx 0 (v := .int .i64 E) rfl
  have c1 := pcell hx 1 (v := .int .i64 G) rfl
  have c2 := pcell hx 2 (v := .int .i64 K) rfl
  have c3 := pcell hx 3 (v := .slice a1 M.length p1) rfl
  have c4 := pcell hx 4 (v := .slice a2 C.length p2) rfl
  have cl := pload E G K _ _ M C w2 HS.out.1 HS.out.2.1
  unfold confA arr5 at cl
  obtain ⟨LF, hLF⟩ : ∃ LF, ldF M C = LF := ⟨_, rfl⟩
  rw [hLF] at cl
  have HLF := Lib.hid hLF
  have HX := Lib.hid hx
  clear hx hLF
  go_wp2_with fail
  refine Calls.mono cl ?_
  rintro ev w3 ⟨rfl, hb3⟩
  have hb4 := hb3.alloc hb3.size (.cells #[.int .i64 (LF 0), .int .i64 (LF 1), .int .i64 (LF 2), .int .i64 (LF 3), .int .i64 (LF 4)] 118)
  have hy := heap_alloc_self w3 (.cells #[.int .i64 (LF 0), .int .i64 (LF 1), .int .i64 (LF 2), .int .i64 (LF 3), .int .i64 (LF 4)] 118)
  have hx4 := below_at hb4 (lt_heap HX.out) HX.out
  have HB4 := Lib.hid (HS.out.2.2.trans (hb4.mono HS.out.2.2.size))
  have HS4 := Lib.hid (And.intro (HS.out.1.below hb4) (HS.out.2.1.below hb4))
  clear hb3 hb4 cl c0 c1 c2 c3 c4 HX
  go_upto_region 3 with fail
  generalize w3.alloc (.cells #[.int .i64 (LF 0), .int .i64 (LF 1), .int .i64 (LF 2), .int .i64 (LF 3), .int .i64 (LF 4)] 118) = w4 at *
  have c3 := pcell hx4 3 (v := .slice a1 M.length p1) rfl
  have c4 := pcell hx4 4 (v := .slice a2 C.length p2) rfl
  have HY := Lib.hid hy
  clear hx4 hy
  go_wp2_with fail
  go_loopw [5] (fun i wr => ∃ j : Nat, j ≤ 5 ∧ i = .int .i64 j ∧ wr = w4) (fun i _ => 5 - (intOf i).toNat)
  case atStart => exact ⟨0, by decide, rfl, rfl⟩
  case round =>
    obtain ⟨j, hj, rfl, hw⟩ := hrel
    have hw' := hw.symm
    subst hw'
    by_cases hlt : j < 5
    · have d := pcell HY.out j (arr5_at LF j hlt)
      have hld : LF j = (if (j : Int) ∈ C then 2 else 0) + if (j : Int) ∈ M then 1 else 0 := by rw [← HLF.out]; rfl
      have h1 := has41 _ C j w4 HS4.out.2
      have h2 := has41 _ M j w4 HS4.out.1
      obtain ⟨p, hp⟩ : ∃ p, decide ((j : Int) ∈ C) = p := ⟨_, rfl⟩
      obtain ⟨q, hq⟩ : ∃ q, decide ((j : Int) ∈ M) = q := ⟨_, rfl⟩
      rw [hp] at h1
      rw [hq] at h2
      have hld2 : LF j = (if p = true then 2 else 0) + if q = true then 1 else 0 := by rw [hld, ← hp, ← hq]; simp
      clear hp hq hld
      obtain ⟨z, hz⟩ : ∃ z, LF j = z := ⟨_, rfl⟩
      rw [hz] at d hld2
      clear hz
      cases p <;> cases q
      all_goals
        simp at hld2
        subst hld2
        go_wp2_with fail
        refine Calls.mono h1 ?_
        rintro ev w5 ⟨rfl, rfl⟩
        go_wp2_with fail
        refine Calls.mono h2 ?_
        rintro ev w5 ⟨rfl, rfl⟩
        go_wp2_with fail
        go_roundw
        case rel => exact ⟨j + 1, by omega, by go_num, by first | rfl | trivial⟩
        case measure => simp [intOf]; omega
    · obtain rfl : j = 5 := by omega
      have ca := fun w => awake41 w
      go_wp2_with fail
      refine Calls.mono (ca _) ?_
      rintro ev w5 ⟨rfl, hb5⟩
      have HB5 := Lib.hid (HB4.out.trans (hb5.mono HB4.out.size))
      clear hb5
      go_wp2_with fail
      go_ret
      exact ⟨rfl, HB5.out⟩
end Go.Proofs.Ytadejhlljdcocaa
/-
  SourceMore's law (under way).
-/


namespace Go.Proofs.Ytadejhlljdcocaa
open Go.RowKit
set_option linter.unusedVariables false
set_option linter.unusedSimpArgs false

set_option maxHeartbeats 6400000 in
set_option maxRecDepth 100000 in
theorem sourcemore_law (c : Array Value) (a : Option Addr) (len cap : Nat) (tc : Array Value) (w : World) (hf0 : Fits w confSh c.toList) (hf1 : Fits w (.slice toldSh) [.slice a len cap]) (hf2 : Fits w toldSh tc.toList) :
    Calls Try.prog 9 #[.agg c, .slice a len cap, .agg tc] w fun v w' => v = .returned (.bool true) ∧ Below w.heap.size w w' := by
  obtain ⟨i0, hi, hz0, hz1, hz2⟩ := info_told
  obtain ⟨e, b, k, m, n, M0, C0, rfl, hm, hc⟩ := fits_conf hf0
  obtain ⟨t0, ht0, hr0, ha0⟩ := fits_told1 hf2
  obtain rfl : tc = t0.cells := by obtain ⟨l⟩ := tc; simp at ht0; rw [ht0]
  obtain ⟨⟨aD, cD, eD⟩, ⟨aA, cA, eA⟩⟩ := TD.forms ha0
  have hcl : t0.cells = #[.int .i64 t0.e, .int .i64 t0.d, .slice aD t0.D.length cD, .slice aA t0.A.length cA] := by unfold TD.cells; rw [eD, eA]
  obtain ⟨ts, hlen, hts, hrs⟩ := fits_told hf1
  obtain ⟨ma, mc, rfl, hmc, hmm⟩ := hm.form
  obtain ⟨ca, cc, rfl, hcc, hcm⟩ := hc.form
  unfold maxLen at hmm hcm
  have cn := fun w' (hb : Below w.heap.size w w') => near_any e b k 5 _ _ M0 C0 w' (hm.below hb) (hc.below hb)
  have HC := Lib.hid hcl
  rw [hcl]
  unfold confA at cn ⊢
  have HT := Lib.hid hts
  have HA := Lib.hid ha0
  have HR := Lib.hid (And.intro hrs hr0)
  have HL := Lib.hid hlen
  clear hf0 hf1 hf2 ht0 hcl hts ha0 hrs hr0 hlen hm hc eD eA
  go_enter Try.func9, Try.ntmps9
  go_upto_region 1 with fail
  have hx0 := heap_alloc_self w (.cells #[.int .i64 e, .int .i64 b, .int .i64 k, .slice ma M0.length mc, .slice ca C0.length cc] 31)
  have hb0 := (Below.refl w.heap.size w).alloc (Nat.le_refl _) (.cells #[.int .i64 e, .int .i64 b, .int .i64 k, .slice ma M0.length mc, .slice ca C0.length cc] 31)
  have hz : (w.alloc (.cells #[.int .i64 e, .int .i64 b, .int .i64 k, .slice ma M0.length mc, .slice ca C0.length cc] 31)).heap.size = w.heap.size + 1 := by simp
  have hy := heap_alloc_self (w.alloc (.cells #[.int .i64 e, .int .i64 b, .int .i64 k, .slice ma M0.length mc, .slice ca C0.length cc] 31)) (.cells #[.int .i64 t0.e, .int .i64 t0.d, .slice aD t0.D.length cD, .slice aA t0.A.length cA] 83)
  have hx := (Below.heap_alloc _ (.cells #[.int .i64 t0.e, .int .i64 t0.d, .slice aD t0.D.length cD, .slice aA t0.A.length cA] 83) _ (lt_heap hx0)).trans hx0
  have hb := hb0.alloc (by simp) (.cells #[.int .i64 t0.e, .int .i64 t0.d, .slice aD t0.D.length cD, .slice aA t0.A.length cA] 83)
  rw [hz] at hy
  clear hx0 hb0 hz
  generalize (w.alloc (.cells #[.int .i64 e, .int .i64 b, .int .i64 k, .slice ma M0.length mc, .slice ca C0.length cc] 31)).alloc (.cells #[.int .i64 t0.e, .int .i64 t0.d, .slice aD t0.D.length cD, .slice aA t0.A.length cA] 83) = w0 at *
  have c0 := scell hx 0 (v := .int .i64 e) rfl
  have c1 := scell hx 1 (v := .int .i64 b) rfl
  have c2 := scell hx 2 (v := .int .i64 k) rfl
  have c3 := scell hx 3 (v := .slice ma M0.length mc) rfl
  have c4 := scell hx 4 (v := .slice ca C0.length cc) rfl
  have cn' := cn w0 hb
  have HX := Lib.hid (And.intro hx (And.intro hy hb))
  clear cn hx hy hb
  go_wp2_with fail
  refine Calls.mono cn' ?_
  rintro ev w1 ⟨v1, v2, rfl, s1, s2, hb1⟩
  unfold confA
  obtain ⟨a1, p1, rfl, hp1, hq1⟩ := s1.form
  obtain ⟨a2, p2, rfl, hp2, hq2⟩ := s2.form
  generalize nearE e 5 = E at *
  generalize nearB b 5 = G at *
  generalize nearK k 5 = K at *
  generalize nearM b 5 M0 C0 = M at *
  generalize nearC b 5 M0 C0 = C at *
  obtain ⟨nM, hnM⟩ : ∃ x, M.length = x := ⟨_, rfl⟩
  obtain ⟨nC, hnC⟩ : ∃ x, C.length = x := ⟨_, rfl⟩
  rw [hnM, hnC]
  clear cn' s1 s2 c0 c1 c2 c3 c4
  obtain ⟨hx, hy, hb⟩ := HX.out
  have hbA := hb1.alloc hb1.size (.cells #[] 83)
  have hbB := hbA.alloc hbA.size (.cells #[.int .i64 E, .int .i64 G, .int .i64 K, .slice a1 nM p1, .slice a2 nC p2] 31)
  have hQ := heap_alloc_self (w1.alloc (.cells #[] 83)) (.cells #[.int .i64 E, .int .i64 G, .int .i64 K, .slice a1 nM p1, .slice a2 nC p2] 31)
  rw [show (w1.alloc (.cells #[] 83)).heap.size = w1.heap.size + 1 by simp] at hQ
  have hw0 : (w1.alloc (.cells #[] 83)).ownsRow w1.heap.size 83 4 (.slice (some ⟨w1.heap.size, 0, none⟩) 0 0) 0 [] := World.ownsRow_lit (base := w1.heap.size) w1 #[] 0 (Nat.le_refl _) (by decide) rfl
  have hown := hw0.alloc (.cells #[.int .i64 E, .int .i64 G, .int .i64 K, .slice a1 nM p1, .slice a2 nC p2] 31)
  have hx1 := below_at hbB (lt_heap hx) hx
  have hy1 := below_at hbB (lt_heap hy) hy
  have hlx := lt_heap hx
  have hly := lt_heap hy
  have hsz := hb1.size
  go_upto_region 2 with fail
  generalize (w1.alloc (.cells #[] 83)).alloc (.cells #[.int .i64 E, .int .i64 G, .int .i64 K, .slice a1 nM p1, .slice a2 nC p2] 31) = W1 at *
  have c0 := scell hx1 0 (v := .int .i64 e) rfl
  have q0 := scell hQ 0 (v := .int .i64 E) rfl
  have fq := sfrz hQ
  have HB1 := Lib.hid (hb.trans (hbB.mono hb.size))
  have hb2 := HB1.out.setCell (p := ⟨w1.heap.size + 1, 0, none⟩) (by show w.heap.size ≤ w1.heap.size + 1; omega) (.int .i64 (bits .and .i64 e 3))
  have hQ2 := heap_set_self hQ 0 (.int .i64 (bits .and .i64 e 3))
  have hy2 := set_farS (p := ⟨w1.heap.size + 1, 0, none⟩) (u := .int .i64 (bits .and .i64 e 3)) hy1 (by show w.heap.size + 1 ≠ w1.heap.size + 1; omega)
  have hG := Lib.hid (show Gat (W1.setCell ⟨w1.heap.size + 1, 0, none⟩ (.int .i64 (bits .and .i64 e 3))) w1.heap.size (.slice (some ⟨w1.heap.size, 0, none⟩) 0 0) [] from ⟨own_set hown (fun b hbb => by simp [Value.ownBlock] at hbb; show b ≠ w1.heap.size + 1; omega), by simp, by simp⟩)
  have HQ2 := Lib.hid (And.intro hQ2 (And.intro hy2 hb2))
  obtain ⟨E3, hE3⟩ : ∃ E3, bits .and .i64 e 3 = E3 := ⟨_, rfl⟩
  clear hQ2 hy2 hb2 hown hw0 hbA hbB hQ hx1 hy1 hb hx hy
  go_wp2_with fail
  rw [hE3] at hG HQ2
  go_loopw [8, 9] (fun vv i wr => ∃ (j : Nat) (us : List TD), j ≤ ts.length ∧ j ≤ 4 ∧ i = .int .i64 j ∧ us.length = j ∧ Hid (Gat wr w1.heap.size vv us) ∧ Hid (wr.heap[w1.heap.size + 1]? = some (.cells #[.int .i64 E3, .int .i64 G, .int .i64 K, .slice a1 nM p1, .slice a2 nC p2] 31) ∧ wr.heap[w.heap.size + 1]? = some (.cells #[.int .i64 t0.e, .int .i64 t0.d, .slice aD t0.D.length cD, .slice aA t0.A.length cA] 83) ∧ Below w.heap.size w wr)) (fun _ i _ => 4 - (intOf i).toNat)
  case atStart => exact ⟨0, [], Nat.zero_le _, by decide, rfl, rfl, hG, HQ2⟩
  case round =>
    obtain ⟨j, us, hj, hj4, rfl, hus, HG, HQ⟩ := hrel
    by_cases hlt : j < ts.length ∧ j < 4
    · obtain ⟨hl1, hl2⟩ := hlt
      obtain ⟨t, ht⟩ : ∃ t, ts[j]? = some t := ⟨_, List.getElem?_eq_getElem hl1⟩
      have htm := List.mem_of_getElem? ht
      have htd := HT.out.go HQ.out.2.2
      obtain ⟨hle, b1, off, rfl, k0, k1, k2, k3⟩ := htd.cell j t ht
      obtain ⟨⟨bD, dD, fD⟩, ⟨bA, dA, fA⟩⟩ := TD.forms (htd.2 t htm)
      rw [fD] at k2
      rw [fA] at k3
      have cnr := near30t t ⟨(HR.out.1 t htm).1, (HR.out.1 t htm).2⟩ wr (htd.2 t htm)
      rw [show t.cells = #[.int .i64 t.e, .int .i64 t.d, .slice bD t.D.length dD, .slice bA t.A.length dA] by unfold TD.cells; rw [fD, fA]] at cnr
      have hj5 : j < len := by rw [hle]; exact hl1
      clear htd htm ht fD fA hle
      go_wp2_with fail
      refine Calls.mono cnr ?_
      rintro ev w2 ⟨u, rfl, hu, hok, hb2, hap, -, -, -, -, -, -⟩
      obtain ⟨⟨gD, qD, xD⟩, ⟨gA, qA, xA⟩⟩ := TD.forms hu
      have hcu : u.cells = #[.int .i64 u.e, .int .i64 u.d, .slice gD u.D.length qD, .slice gA u.A.length qA] := by unfold TD.cells; rw [xD, xA]
      have hlit := told_lit u w2
      have hap2 := hap _ (fun g e => (HG.out.lt g e).2)
      rw [hcu] at hlit
      rw [hcu]
      have HG2 := Lib.hid (HG.out.go hb2)
      have HU := Lib.hid (And.intro hu (And.intro hok (And.intro hap2 (HQ.out.2.2.trans (hb2.mono HQ.out.2.2.size)))))
      have HQ1 := Lib.hid (below_at hb2 (lt_heap HQ.out.1) HQ.out.1)
      have HQ2 := Lib.hid (below_at hb2 (lt_heap HQ.out.2.1) HQ.out.2.1)
      have HS := Lib.hid hb2.size
      clear cnr k0 k1 k2 k3 hu hok hb2 hap hap2 xD xA
      have hjl : us.length = j := hus
      go_wp2_with (at_builtin; refine wp_appN Try.underlying79 hi hz0 hz1 hz2 rfl (by decide) rfl (.tmp 33) (.tmp 39) rfl w1.heap.size _ _ _ rfl (HG2.out.row.alloc _) _ _ 1 (tCells [u]) rfl hlit (by decide) ?c1 ?c2 ?c3 ?c4 ?_)
      case c1 => exact tCells_one (by intro z hz; rw [List.mem_singleton.1 hz]; exact HU.out.1)
      case c2 => unfold maxLen; omega
      case c3 => omega
      case c4 => have := lt_heap HQ1.out; simp; omega
      intro v' w3 hown hgr hnw
      have G3 := Lib.hid (HG2.out.one HU.out.1 HU.out.2.1 HU.out.2.2.1 (by rw [hjl]; exact hown) hgr hnw)
      have L3 := grown_lit HG2.out hgr HU.out.2.2.2 (by omega) HU.out.2.2.2.size
      have HQ3 := Lib.hid (And.intro ((L3.2 _ (lt_heap HQ1.out) (HG2.out.ne HQ1.out (by decide))).trans HQ1.out) (And.intro ((L3.2 _ (lt_heap HQ2.out) (fun q => by have := (HG2.out.lt _ q.symm).1; omega)).trans HQ2.out) L3.1))
      clear hown hgr hnw L3 hlit
      go_wp2_with fail
      go_roundw
      case rel => exact ⟨j + 1, us ++ [u], by omega, by omega, by go_num, by simp [hus], G3, HQ3⟩
      case measure => simp [intOf]; omega
    · have hfin : j = ts.length ∨ (j = 4 ∧ 4 < ts.length) := by omega
      clear hG HQ2 hlt
      have hlen2 : ts.length = len := HL.out
      rw [hlen2] at hj hfin
      clear hlen2
      have cP := fun (ts : List TD) (hok : ∀ t ∈ ts, TOk t) (w' : World) (v9 : Value) (h : TDs w' v9 ts) => spickN E3 G K a1 a2 nM p1 nC p2 ts hok 0 w' v9 h (Nat.zero_le _)
      have hQr := HQ.out.1
      have q0 := scell hQr 0 (v := .int .i64 E3) rfl
      have q1 := scell hQr 1 (v := .int .i64 G) rfl
      have q2 := scell hQr 2 (v := .int .i64 K) rfl
      have q3 := scell hQr 3 (v := .slice a1 nM p1) rfl
      have q4 := scell hQr 4 (v := .slice a2 nC p2) rfl
      clear hQr
      rcases hfin with rfl | ⟨rfl, h4l⟩
      all_goals
        go_upto_region 7 with fail
        go_wp2_with fail
        refine Calls.mono (cP us HG.out.ok _ _ HG.out.tds) ?_
        rintro e w4 ⟨v4, rfl, hb4, -⟩
        have HG4 := Lib.hid (HG.out.go hb4)
        have hQ4 := below_at hb4 (lt_heap HQ.out.1) HQ.out.1
        have hT4 := below_at hb4 (lt_heap HQ.out.2.1) HQ.out.2.1
        have HB4 := Lib.hid (HQ.out.2.2.trans (hb4.mono HQ.out.2.2.size))
        obtain ⟨P1, hP1⟩ : ∃ P1, okP E3 nM us = P1 := ⟨_, rfl⟩
        rw [hP1]
        have HP1 := Lib.hid hP1
        clear hP1
        clear hb4 HG HQ q0 q1 q2 q3 q4
        have q0 := scell hQ4 0 (v := .int .i64 E3) rfl
        have q1 := scell hQ4 1 (v := .int .i64 G) rfl
        have q2 := scell hQ4 2 (v := .int .i64 K) rfl
        have q3 := scell hQ4 3 (v := .slice a1 nM p1) rfl
        have q4 := scell hQ4 4 (v := .slice a2 nC p2) rfl
        have t0' := scell hT4 0 (v := .int .i64 t0.e) rfl
        have t1' := scell hT4 1 (v := .int .i64 t0.d) rfl
        have t2' := scell hT4 2 (v := .slice aD t0.D.length cD) rfl
        have t3' := scell hT4 3 (v := .slice aA t0.A.length cA) rfl
        obtain ⟨N, hN⟩ : ∃ N, w4.heap.size = N := ⟨_, rfl⟩
        have hQlt : w1.heap.size + 1 < N := by rw [← hN]; exact lt_heap hQ4
        have hTlt : w.heap.size + 1 < N := by rw [← hN]; exact lt_heap hT4
        have hlen4 : us.length ≤ 4 := by omega
        have hown0 : (w4.alloc (.cells #[] 83)).drew.ownsRow N 83 4 (.slice (some ⟨N, 0, none⟩) 0 0) 0 [] := by
          have h := World.ownsRow_lit (base := N) (e := 83) (size := 4) w4 #[] 0 (by omega) (by decide) rfl
          rw [hN] at h
          exact owns_below h (below_drew' (Below.refl _ _))
        have hks := keeps_start hN
        have hsv := fun w' (h : N ≤ w'.heap.size ∧ Below N w4 w') => (SR.owns HG4.out.row).below (hN ▸ h.2)
        have cN := fun w' (h : N ≤ w'.heap.size ∧ Below N w4 w') => near30c t0 ⟨HR.out.2.1, HR.out.2.2⟩ N w' h.1 (HA.out.go (HB4.out.trans (h.2.mono (by omega))))
        simp only [HC.out] at cN
        have cQ := fun (ts : List TD) (hok : ∀ t ∈ ts, TOk t) (w' : World) (v9 : Value) (h : TDs w' v9 ts) (hN : N ≤ w'.heap.size) => spickN E3 G K a1 a2 nM p1 nC p2 ts hok N w' v9 h hN
        have HQ4 := Lib.hid (And.intro hQ4 hT4)
        clear hQ4 hT4
        go_upto_region 8 with fail
        go_region_held3 (fun w' => N ≤ w'.heap.size ∧ Below N w4 w' ∧ ∀ b o, b < N → w'.cell? ⟨b, o, none⟩ = w4.cell? ⟨b, o, none⟩) (first | exact hks | exact keeps_alloc (by assumption) | exact keeps_next (by assumption) (by assumption) | exact keeps_app (by assumption) (by assumption) (by assumption)) (first | (go_at_call 44; (with_reducible refine Calls.mono (cN _ ?hk) ?_); (case hk => exact keepsT_two (by assumption)); rintro e w8 ⟨u, x8, y8, gD, gA, nD, qD, nA, qA, rfl, hcu, hu8, hok8, hb8, hap8, he8, hd8, hzz⟩; have G8 := G7.go hb8; have own8 := G8.row.alloc (.cells #[.int .i64 x8, .int .i64 y8, .slice gD nD qD, .slice gA nA qA] 83); have hapv := hap8 v7 (fun g e => (G7.lt g e).2)) | (go_at_call 45; (with_reducible refine Calls.mono (cQ _ (tok_one HG4.out.ok hok8) _ _ T9 ?hk) ?_); (case hk => exact And.left (by assumption)); rintro e w10 ⟨v10, rfl, hb10, hz10⟩) | (refine step_appH Try.underlying79 hi hz0 hz1 hz2 rfl (by decide) rfl (.tmp 49) (.tmp 50) rfl N _ 0 [] rfl hown0 _ us.length (tCells us) rfl (hsv _ (keepsT_two (by assumption))) (tones HG4.out) (by unfold maxLen; omega) (by omega) (And.left (by assumption)) ?_; intro v7 w7 own7 gr7; have G7 := HG4.out.copy hN own7 gr7) | (refine step_appH Try.underlying79 hi hz0 hz1 hz2 rfl (by decide) rfl (.tmp 51) (.tmp 54) rfl N _ us.length (tCells us) rfl own8 _ 1 (tCells [u]) rfl (told_lit2 hcu _) (tones1 hu8) (by unfold maxLen; omega) (by omega) (And.left (by assumption)) ?_; intro v9 w9 own9 gr9; have T9 := G8.tds_one hu8 hapv own9 gr9))
        rename_i hfin
        have hbf : Below w4.heap.size w4 w10 := by rw [hN]; exact hfin.2.1
        have HG5 := Lib.hid (HG4.out.go hbf)
        have hQ5 := below_at hbf (lt_heap HQ4.out.1) HQ4.out.1
        have hT5 := below_at hbf (lt_heap HQ4.out.2) HQ4.out.2
        have HB5 := Lib.hid (HB4.out.trans (hbf.mono HB4.out.size))
        obtain ⟨P2, hP2⟩ : ∃ P2, okP E3 nM (us ++ [u]) = P2 := ⟨_, rfl⟩
        rw [hP2]
        have HP2 := Lib.hid (And.intro hP2 (And.intro he8 hd8))
        clear hfin hbf HG4 HQ4 HB4 q0 q1 q2 q3 q4 t0' t1' t2' t3' hown0 hks hsv cN cQ hP2 G7 G8 own7 own8 own9 gr7 gr9 hapv hap8 hb8 hb10 hz10 hzz T9 hu8 hok8 hcu hQlt hTlt he8 hd8
        have q0 := scell hQ5 0 (v := .int .i64 E3) rfl
        have q1 := scell hQ5 1 (v := .int .i64 G) rfl
        have q2 := scell hQ5 2 (v := .int .i64 K) rfl
        have q3 := scell hQ5 3 (v := .slice a1 nM p1) rfl
        have q4 := scell hQ5 4 (v := .slice a2 nC p2) rfl
        have t0' := scell hT5 0 (v := .int .i64 t0.e) rfl
        have t1' := scell hT5 1 (v := .int .i64 t0.d) rfl
        have t2' := scell hT5 2 (v := .slice aD t0.D.length cD) rfl
        have t3' := scell hT5 3 (v := .slice aA t0.A.length cA) rfl
        clear hN
        obtain ⟨N5, hN⟩ : ∃ N5, w10.heap.size = N5 := ⟨_, rfl⟩
        have hQlt : w1.heap.size + 1 < N5 := by rw [← hN]; exact lt_heap hQ5
        have hTlt : w.heap.size + 1 < N5 := by rw [← hN]; exact lt_heap hT5
        have hks := keeps_start hN
        have hsv := fun w' (h : N5 ≤ w'.heap.size ∧ Below N5 w10 w') => (SR.owns HG5.out.row).below (hN ▸ h.2)
        have cN := fun w' (h : N5 ≤ w'.heap.size ∧ Below N5 w10 w') => near30c t0 ⟨HR.out.2.1, HR.out.2.2⟩ N5 w' h.1 (HA.out.go (HB5.out.trans (h.2.mono (by omega))))
        simp only [HC.out] at cN
        have cQ := fun (ts : List TD) (hok : ∀ t ∈ ts, TOk t) (w' : World) (v9 : Value) (h : TDs w' v9 ts) (hN : N5 ≤ w'.heap.size) => spickN E3 G K a1 a2 nM p1 nC p2 ts hok N5 w' v9 h hN
        clear hQ5 hT5
        go_upto_region 9 with fail
        go_region_held3 (fun w' => N5 ≤ w'.heap.size ∧ Below N5 w10 w' ∧ ∀ b o, b < N5 → w'.cell? ⟨b, o, none⟩ = w10.cell? ⟨b, o, none⟩) (first | exact hks | exact keeps_alloc (by assumption) | exact keeps_next (by assumption) (by assumption) | exact keeps_app (by assumption) (by assumption) (by assumption)) (first | (go_at_call 44; (with_reducible refine Calls.mono (cN _ ?hk) ?_); (case hk => exact keepsT_two (by assumption)); rintro e w8 ⟨u9, x8, y8, gD, gA, nD, qD, nA, qA, rfl, hcu, hu8, hok8, hb8, hap8, he8, hd8, hzz⟩; have own8 := told_own2 hcu N5 _ hzz.1; have hapv := hap8 (.slice none 0 0) (fun g e => by cases e); have hb9 : Below w10.heap.size w10 w8 := ⟨hb8.os, hb8.tape, hb8.output, hb8.size, hb8.block⟩) | (go_at_call 45; (with_reducible refine Calls.mono (cQ _ (tok_cons HG5.out.ok hok8) _ _ T9 ?hk) ?_); (case hk => exact And.left (by assumption)); rintro e w11 ⟨v11, rfl, hb11, hz11⟩) | (refine step_appH Try.underlying79 hi hz0 hz1 hz2 rfl (by decide) rfl (.tmp 63) (.tmp 64) rfl N5 _ 1 (tCells [u9]) rfl own8 _ us.length (tCells us) rfl (hsv _ (keepsT_two (by assumption))) (tones HG5.out) (by unfold maxLen; omega) (by omega) (And.left (by assumption)) ?_; intro v9 w9 own9 gr9; have T9 := HG5.out.tds_cons hb9 hu8 own9 gr9 hapv))
        rename_i hfin
        have HB6 := Lib.hid (HB5.out.trans (hfin.2.1.mono (by omega)))
        have hP3 : okP E3 nM (u9 :: us) = P2 := by rw [← HP2.out.1]; exact (okP_ends (by rw [HP2.out.2.1, he8]) (by rw [HP2.out.2.2, hd8])).symm
        rw [hP3]
        have h12 : P1 = true → P2 = true := fun h => by
          rw [← HP2.out.1]
          rw [← HP1.out] at h
          exact okP_more h fun t ht => List.mem_append_left _ ht
        clear hfin HG5 HB5 q0 q1 q2 q3 q4 t0' t1' t2' t3' hks hsv cN cQ hP3 own8 own9 gr9 hapv hap8 hb8 hb9 hb11 hz11 hzz T9 hu8 hok8 hcu hQlt hTlt he8 hd8
        go_wp2_with fail
        refine Calls.mono (awake30 _) ?_
        rintro e w12 ⟨rfl, hb12⟩
        have HB7 := Lib.hid (HB6.out.trans (hb12.mono HB6.out.size))
        clear hb12 HP1 HP2
        cases P1 <;> cases P2
        case true.false => exact absurd (h12 rfl) (by decide)
        all_goals
          go_wp2_with fail
          go_ret
          exact ⟨rfl, HB7.out⟩
end Go.Proofs.Ytadejhlljdcocaa
