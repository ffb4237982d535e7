/-
  PlaceLoad's walk.
-/
import Derived.Test.YtadejhlljdcocaaPlcC
import Derived.Test.YtadejhlljdcocaaFits
namespace Go.Proofs.Ytadejhlljdcocaa
open Go.RowKit
set_option linter.unusedVariables false
set_option linter.unusedSimpArgs false

/-- a slice of integers that came in by its shape -/
theorem fits_intsP {w : World} {a : Option Addr} {len cap : Nat} (h : Fits w (.slice (.int .i64)) [.slice a len cap]) : ∃ l : List Int, l.length = len ∧ SR w (.slice a len cap) 1 l.length (nCells l) := by
  obtain ⟨h1, h2, h3⟩ := h.slice
  rcases h3 with h0 | ⟨b, off, rfl, hb, he⟩
  · subst h0
    exact ⟨[], rfl, a, cap, rfl, h1, h2, rfl, .inl rfl⟩
  · refine ⟨(List.range len).map fun i => match w.cell? ⟨b, off + i, none⟩ with | some (.int _ z) => z | _ => 0, by simp, ?_⟩
    refine ⟨_, cap, by simp, by simpa using h1, h2, by simp [nCells], .inr ⟨b, off, rfl, hb, fun j u hj => ?_⟩⟩
    have hjl : j < len := by
      have := (List.getElem?_eq_some_iff.1 hj).1
      simpa [nCells] using this
    obtain ⟨ys, hl, hc, z, rfl, -⟩ := he j hjl
    have hcell : w.cell? ⟨b, off + j, none⟩ = some (.int .i64 z) := by simpa [Sh.size] using hc 0 _ rfl
    rw [hcell, ← hj]
    simp [nCells, hjl, hcell]
abbrev confSh : Sh := .two (.int .i64) (.two (.int .i64) (.two (.int .i64) (.two (.slice (.int .i64)) (.two (.slice (.int .i64)) .unit))))
/-- a configuration that came in -/
theorem fits_conf {w : World} {c : Array Value} (h : Fits w confSh c.toList) : ∃ (e b k : Int) (m n : Value) (M C : List Int), c = confA e b k m n ∧ SR w m 1 M.length (nCells M) ∧ SR w n 1 C.length (nCells C) := by
  obtain ⟨x0, y0, h0, ⟨e, rfl, -⟩, x1, y1, rfl, ⟨b, rfl, -⟩, x2, y2, rfl, ⟨k, rfl, -⟩, x3, y3, rfl, hM, x4, y4, rfl, hC, rfl⟩ := h
  obtain ⟨ma, ml, mc, rfl, hM'⟩ : ∃ a l q, x3 = [.slice a l q] ∧ Fits w (.slice (.int .i64)) [.slice a l q] := by
    obtain ⟨a, l, q, rfl, h⟩ := hM
    exact ⟨a, l, q, rfl, a, l, q, rfl, h⟩
  obtain ⟨ca, cl, cc, rfl, hC'⟩ : ∃ a l q, x4 = [.slice a l q] ∧ Fits w (.slice (.int .i64)) [.slice a l q] := by
    obtain ⟨a, l, q, rfl, h⟩ := hC
    exact ⟨a, l, q, rfl, a, l, q, rfl, h⟩
  obtain ⟨M0, hm1, hm0⟩ := fits_intsP hM'
  obtain ⟨C0, hc1, hc0⟩ := fits_intsP hC'
  subst hm1 hc1
  refine ⟨e, b, k, _, _, M0, C0, ?_, hm0, hc0⟩
  obtain ⟨l⟩ := c
  simp at h0
  rw [h0]
  rfl
set_option maxHeartbeats 6400000 in
set_option maxRecDepth 100000 in
theorem placeload_law (c : Array Value) (w : World) (hf : Fits w confSh c.toList) :
    Calls Try.prog 13 #[.agg c] w fun v w' => v = .returned (.bool true) ∧ Below w.heap.size w w' := by
  obtain ⟨e, b, k, m, n, M0, C0, rfl, hm, hc⟩ := fits_conf hf
  obtain ⟨ma, mc, rfl, hmc, hmm⟩ := hm.form
  obtain ⟨ca, cc, rfl, hcc, hcm⟩ := hc.form
  have bx : Below w.heap.size w (w.alloc (.cells (confA e b k (.slice ma M0.length mc) (.slice ca C0.length cc)) 31)) := (Below.refl _ _).alloc (Nat.le_refl _) _
  have cn := near_any e b k 5 _ _ M0 C0 _ (hm.below bx) (hc.below bx)
  have hx := heap_alloc_self w (.cells (confA e b k (.slice ma M0.length mc) (.slice ca C0.length cc)) 31)
  have BX := Lib.hid bx
  clear hm hc bx hf
  unfold confA at cn hx BX
  unfold confA
  go_enter Try.func13, Try.ntmps13
  go_upto_region 1 with fail
  generalize w.alloc (.cells #[.int .i64 e, .int .i64 b, .int .i64 k, .slice ma M0.length mc, .slice ca C0.length cc] 31) = w0 at *
  have c0 := pcell hx 0 (v := .int .i64 e) rfl
  have c1 := pcell hx 1 (v := .int .i64 b) rfl
  have c2 := pcell hx 2 (v := .int .i64 k) rfl
  have c3 := pcell hx 3 (v := .slice ma M0.length mc) rfl
  have c4 := pcell hx 4 (v := .slice ca C0.length cc) rfl
  clear hx
  go_wp2_with fail
  refine Calls.mono cn ?_
  rintro ev w1 ⟨v1, v2, rfl, s1, s2, hb1⟩
  unfold confA
  obtain ⟨a1, p1, rfl, hp1, hq1⟩ := s1.form
  obtain ⟨a2, p2, rfl, hp2, hq2⟩ := s2.form
  unfold maxLen at hq1 hq2
  generalize nearE e 5 = E at *
  generalize nearB b 5 = G at *
  generalize nearK k 5 = K at *
  generalize nearM b 5 M0 C0 = M at *
  generalize nearC b 5 M0 C0 = C at *
  have hb2 := (Below.refl w1.heap.size w1).alloc (Nat.le_refl _) (.cells #[.int .i64 E, .int .i64 G, .int .i64 K, .slice a1 M.length p1, .slice a2 C.length p2] 31)
  have hx := heap_alloc_self w1 (.cells #[.int .i64 E, .int .i64 G, .int .i64 K, .slice a1 M.length p1, .slice a2 C.length p2] 31)
  have HS := Lib.hid (And.intro (s1.below hb2) (And.intro (s2.below hb2) (BX.out.trans ((hb1.trans (hb2.mono hb1.size)).mono BX.out.size))))
  clear s1 s2 hb1 hb2 cn c0 c1 c2 c3 c4
  go_upto_region 2 with fail
  generalize w1.alloc (.cells #[.int .i64 E, .int .i64 G, .int .i64 K, .slice a1 M.length p1, .slice a2 C.length p2] 31) = w2 at *
  have c0 := pcell hx 0 (v := .int .i64 E) rfl
  have c1 := pcell hx 1 (v := .int .i64 G) rfl
  have c2 := pcell hx 2 (v := .int .i64 K) rfl
  have c3 := pcell hx 3 (v := .slice a1 M.length p1) rfl
  have c4 := pcell hx 4 (v := .slice a2 C.length p2) rfl
  have cl := pload E G K _ _ M C w2 HS.out.1 HS.out.2.1
  unfold confA arr5 at cl
  obtain ⟨LF, hLF⟩ : ∃ LF, ldF M C = LF := ⟨_, rfl⟩
  rw [hLF] at cl
  have HLF := Lib.hid hLF
  have HX := Lib.hid hx
  clear hx hLF
  go_wp2_with fail
  refine Calls.mono cl ?_
  rintro ev w3 ⟨rfl, hb3⟩
  have hb4 := hb3.alloc hb3.size (.cells #[.int .i64 (LF 0), .int .i64 (LF 1), .int .i64 (LF 2), .int .i64 (LF 3), .int .i64 (LF 4)] 118)
  have hy := heap_alloc_self w3 (.cells #[.int .i64 (LF 0), .int .i64 (LF 1), .int .i64 (LF 2), .int .i64 (LF 3), .int .i64 (LF 4)] 118)
  have hx4 := below_at hb4 (lt_heap HX.out) HX.out
  have HB4 := Lib.hid (HS.out.2.2.trans (hb4.mono HS.out.2.2.size))
  have HS4 := Lib.hid (And.intro (HS.out.1.below hb4) (HS.out.2.1.below hb4))
  clear hb3 hb4 cl c0 c1 c2 c3 c4 HX
  go_upto_region 3 with fail
  generalize w3.alloc (.cells #[.int .i64 (LF 0), .int .i64 (LF 1), .int .i64 (LF 2), .int .i64 (LF 3), .int .i64 (LF 4)] 118) = w4 at *
  have c3 := pcell hx4 3 (v := .slice a1 M.length p1) rfl
  have c4 := pcell hx4 4 (v := .slice a2 C.length p2) rfl
  have HY := Lib.hid hy
  clear hx4 hy
  go_wp2_with fail
  go_loopw [5] (fun i wr => ∃ j : Nat, j ≤ 5 ∧ i = .int .i64 j ∧ wr = w4) (fun i _ => 5 - (intOf i).toNat)
  case atStart => exact ⟨0, by decide, rfl, rfl⟩
  case round =>
    obtain ⟨j, hj, rfl, hw⟩ := hrel
    have hw' := hw.symm
    subst hw'
    by_cases hlt : j < 5
    · have d := pcell HY.out j (arr5_at LF j hlt)
      have hld : LF j = (if (j : Int) ∈ C then 2 else 0) + if (j : Int) ∈ M then 1 else 0 := by rw [← HLF.out]; rfl
      have h1 := has41 _ C j w4 HS4.out.2
      have h2 := has41 _ M j w4 HS4.out.1
      obtain ⟨p, hp⟩ : ∃ p, decide ((j : Int) ∈ C) = p := ⟨_, rfl⟩
      obtain ⟨q, hq⟩ : ∃ q, decide ((j : Int) ∈ M) = q := ⟨_, rfl⟩
      rw [hp] at h1
      rw [hq] at h2
      have hld2 : LF j = (if p = true then 2 else 0) + if q = true then 1 else 0 := by rw [hld, ← hp, ← hq]; simp
      clear hp hq hld
      obtain ⟨z, hz⟩ : ∃ z, LF j = z := ⟨_, rfl⟩
      rw [hz] at d hld2
      clear hz
      cases p <;> cases q
      all_goals
        simp at hld2
        subst hld2
        go_wp2_with fail
        refine Calls.mono h1 ?_
        rintro ev w5 ⟨rfl, rfl⟩
        go_wp2_with fail
        refine Calls.mono h2 ?_
        rintro ev w5 ⟨rfl, rfl⟩
        go_wp2_with fail
        go_roundw
        case rel => exact ⟨j + 1, by omega, by go_num, by first | rfl | trivial⟩
        case measure => simp [intOf]; omega
    · obtain rfl : j = 5 := by omega
      have ca := fun w => awake41 w
      go_wp2_with fail
      refine Calls.mono (ca _) ?_
      rintro ev w5 ⟨rfl, hb5⟩
      have HB5 := Lib.hid (HB4.out.trans (hb5.mono HB4.out.size))
      clear hb5
      go_wp2_with fail
      go_ret
      exact ⟨rfl, HB5.out⟩
end Go.Proofs.Ytadejhlljdcocaa
