/-
  The law of logs: whatever is laid, told behind a place, cut and begun anew.
-/
import Derived.Test.YtkdmnhmlkcejfaaRgN
import Derived.Test.YtkdmnhmlkcejfaaRpA
namespace Go.Proofs.Ytkdmnhmlkcejfaa
open Go.RowKit
set_option linter.unusedVariables false
set_option linter.unusedSimpArgs false

def confShR : Sh := .two (.int .i64) (.two (.int .i64) (.two (.int .i64) (.two (.slice (.int .i64)) (.two (.slice (.int .i64)) .unit))))
def entShR : Sh := .two (.int .i64) (.two (.two (.int .i64) (.two confShR .unit)) .unit)
theorem fits_intsR {w : World} {a : Option Addr} {len cap : Nat} (h : Fits w (.slice (.int .i64)) [.slice a len cap]) : ∃ l : List Int, l.length = len ∧ SR w (.slice a len cap) 1 l.length (nCells l) := by
  obtain ⟨h1, h2, h3⟩ := h.slice
  rcases h3 with h0 | ⟨b, off, rfl, hb, he⟩
  · subst h0
    exact ⟨[], rfl, a, cap, rfl, h1, h2, rfl, .inl rfl⟩
  · refine ⟨(List.range len).map fun i => match w.cell? ⟨b, off + i, none⟩ with | some (.int _ z) => z | _ => 0, by simp, ?_⟩
    refine ⟨_, cap, by simp, by simpa using h1, h2, by simp [nCells], .inr ⟨b, off, rfl, hb, fun j u hj => ?_⟩⟩
    have hjl : j < len := by
      have := (List.getElem?_eq_some_iff.1 hj).1
      simpa [nCells] using this
    obtain ⟨ys, hl, hc, z, rfl, -⟩ := he j hjl
    have hcell : w.cell? ⟨b, off + j, none⟩ = some (.int .i64 z) := by simpa [Sh.size] using hc 0 _ rfl
    rw [hcell, ← hj]
    simp [nCells, hjl, hcell]
theorem fits_en {w : World} {ys : List Value} (h : Fits w entShR ys) : ∃ r : EN, ys = r.cells ∧ r.at_ w := by
  obtain ⟨_, _, rfl, ⟨t, rfl, -⟩, _, _, rfl, h, rfl⟩ := h
  obtain ⟨x, y, rfl, ⟨z, rfl, -⟩, x1, y1, rfl, h1, rfl⟩ := h
  obtain ⟨_, _, rfl, ⟨e, rfl, -⟩, _, _, rfl, ⟨b, rfl, -⟩, _, _, rfl, ⟨k, rfl, -⟩, x3, _, rfl, h3, x4, _, rfl, h4, rfl⟩ := h1
  obtain ⟨ma, ml, mc, rfl, -⟩ := id h3
  obtain ⟨ca, cl, cc, rfl, -⟩ := id h4
  obtain ⟨M, rfl, hM⟩ := fits_intsR h3
  obtain ⟨C, rfl, hC⟩ := fits_intsR h4
  exact ⟨⟨t, z, ⟨e, b, k, M, C⟩, ma, mc, ca, cc⟩, rfl, hM, hC⟩
theorem elts_row {w : World} {N : Nat} {v : Value} {es : List EN} (h : w.ownsRow N 46 7 v es.length (enCells es)) : Elts w EN.cells 7 v es := by
  obtain ⟨a, cap, rfl, h1, h2, h3, h4⟩ := SR.owns h
  refine ⟨a, cap, rfl, h1, h2, h4.imp id ?_⟩
  rintro ⟨b, off, rfl, hb, hc⟩
  refine ⟨b, off, rfl, hb, fun j e hj k u hk => ?_⟩
  have hk7 : k < 7 := by
    have := (List.getElem?_eq_some_iff.1 hk).1
    simpa [EN.cells] using this
  have := hc (j * 7 + k) u (enCells_get es j e hj k u hk hk7)
  rwa [← Nat.add_assoc] at this
/-- an act that came in -/
structure AC where
  w : Int
  p : Int
  t : Int
  a : Option Addr
  q : Nat
  l : List EN
def AC.cells (r : AC) : List Value := [.int .i64 r.w, .int .i64 r.p, .int .i64 r.t, .slice r.a r.l.length r.q]
def AC.good (w : World) (r : AC) : Prop := Elts w EN.cells 7 (.slice r.a r.l.length r.q) r.l ∧ ∀ e ∈ r.l, e.at_ w
def actShR : Sh := .two (.int .i64) (.two (.int .i64) (.two (.int .i64) (.two (.slice entShR) .unit)))
theorem fits_act {w : World} {ys : List Value} (h : Fits w actShR ys) : ∃ r : AC, ys = r.cells ∧ r.good w := by
  obtain ⟨_, _, rfl, ⟨a, rfl, -⟩, _, _, rfl, ⟨b, rfl, -⟩, _, _, rfl, ⟨c, rfl, -⟩, x4, _, rfl, h4, rfl⟩ := h
  obtain ⟨la, ll, lc, rfl, -⟩ := id h4
  obtain ⟨rs, rfl, hel, hok⟩ := fits_rows (c := EN.cells) (good := fun r => r.at_ w) (fun ys h => fits_en h) h4
  exact ⟨⟨a, b, c, la, lc, rs⟩, rfl, hel, hok⟩
def CUT9 (w1 : World) (s : Value) (wx : World) : Prop := ∃ u0 es nx, s = u0 ∧ Below w1.heap.size w1 nx ∧ GS nx wx u0 es ∧ es.length ≤ 6
theorem meas_40 {j : Nat} (h : (j : Int) < 40) : 40 - (intOf (.int .i64 ((j : Int) + 1))).toNat < 40 - (intOf (.int .i64 (j : Int))).toNat := by
  show 40 - ((j : Int) + 1).toNat < 40 - ((j : Int)).toNat
  omega
set_option maxHeartbeats 6400000 in
set_option maxRecDepth 100000 in
theorem rlogplays_law (a : Option Addr) (len cap : Nat) (w : World) (hf : Fits w (.slice actShR) [.slice a len cap]) :
    Calls Try.prog 3 #[.slice a len cap] w fun e w' => e = .returned (.bool true) ∧ Below w.heap.size w w' := by
  obtain ⟨rs, hrs, hel, hok⟩ := fits_rows (c := AC.cells) (good := AC.good w) (fun ys h => fits_act h) hf
  have hlc := hf.slice.1
  have hcm := hf.slice.2.1
  unfold maxLen at hcm
  have HE := Lib.hid (And.intro hrs (And.intro hel hok))
  clear hrs hel hok hf
  have cN := rnewE [] (by simp) w (.slice none 0 0) ⟨none, 0, rfl, by simp, by decide, .inl rfl⟩ (by simp)
  go_enter Try.func3, Try.ntmps3
  go_wp2_with fail
  refine Calls.mono cN ?_
  rintro e w2 ⟨v0, fs, rfl, hL, hk, hb2⟩
  obtain ⟨g, hg⟩ : ∃ g, w.heap.size = g := ⟨_, rfl⟩
  obtain rfl : fs = [] := by simpa using hk
  obtain ⟨X, hX⟩ : ∃ X, w2.heap.size = X := ⟨_, rfl⟩
  have hbx : Below w2.heap.size w2 (w2.alloc (.cells #[.int .i64 0, .int .i64 0, .slice none 0 0] 27)) := (Below.refl _ _).alloc (Nat.le_refl _) _
  have hR : RS g X w 0 (w2.alloc (.cells #[.int .i64 0, .int .i64 0, .slice none 0 0] 27)) := by
    have hl2 := hL.below hbx
    rw [hg] at hl2
    refine ⟨0, 0, v0, [], .slice none 0 0, [], ⟨⟨hl2.low, hl2.obj, hl2.row, hl2.lists, by omega⟩, ?_, ⟨none, 0, rfl, by simp, by decide, .inl rfl⟩, rfl, by simp, by simp, hb2.trans (hbx.mono hb2.size), by omega, ?_⟩, by simp⟩
    · rw [← hX]; exact heap_alloc_self _ _
    · have := lt_heap hL.obj; omega
  have HR0 := Lib.hid hR
  clear hR hL hk hb2 hbx cN
  go_upto_region 2 with fail
  try rw [hX]
  try rw [hg]
  generalize w2.alloc (.cells #[.int .i64 0, .int .i64 0, .slice none 0 0] 27) = w3 at *
  clear hX
  go_wp2_with fail
  go_loopw [5] (fun iv wr => ∃ j : Nat, j ≤ 40 ∧ iv = .int .i64 (j : Int) ∧ Hid (RS g X w (6 * j) wr)) (fun iv _ => 40 - (intOf iv).toNat)
  case atStart => exact ⟨0, by decide, rfl, HR0⟩
  case round =>
    obtain ⟨j, hj40, rfl, HR⟩ := hrel
    clear HR0
    by_cases hin : j < len ∧ (j : Int) < 40
    · obtain ⟨hi1, hi2⟩ := hin
      have hi1' : (j : Int) < (len : Int) := by omega
      obtain ⟨x, hx⟩ : ∃ x, rs[j]? = some x := ⟨rs[j]'(by rw [HE.out.1]; exact hi1), List.getElem?_eq_getElem _⟩
      obtain ⟨B, T, v, ts, mv, ms, hI, hl⟩ := HR.out
      obtain ⟨-, b0, off, rfl, hb0, hcell⟩ := (HE.out.2.1.below hI.low).at_ hx
      have e0 : wr.cell? ⟨b0, off + j * 4, none⟩ = some (.int .i64 x.w) := hcell 0 (.int .i64 x.w) rfl
      have e1 : wr.cell? ⟨b0, off + j * 4 + 1, none⟩ = some (.int .i64 x.p) := hcell 1 (.int .i64 x.p) rfl
      have e2 : wr.cell? ⟨b0, off + j * 4 + 2, none⟩ = some (.int .i64 x.t) := hcell 2 (.int .i64 x.t) rfl
      have e3 : wr.cell? ⟨b0, off + j * 4 + 3, none⟩ = some (.slice x.a x.l.length x.q) := hcell 3 (.slice x.a x.l.length x.q) rfl
      have hxo := HE.out.2.2 x (List.mem_of_getElem? hx)
      have hba : Below wr.heap.size wr (wr.alloc (.cells #[.int .i64 x.w, .int .i64 x.p, .int .i64 x.t, .slice x.a x.l.length x.q] 29)) := (Below.refl _ _).alloc (Nat.le_refl _) _
      have hwa := heap_alloc_self wr (.cells #[.int .i64 x.w, .int .i64 x.p, .int .i64 x.t, .slice x.a x.l.length x.q] 29)
      have hI1 := hI.below hba
      obtain ⟨A0, hA0⟩ : ∃ A0, wr.heap.size = A0 := ⟨_, rfl⟩
      have hxl : Elts (wr.alloc (.cells #[.int .i64 x.w, .int .i64 x.p, .int .i64 x.t, .slice x.a x.l.length x.q] 29)) EN.cells 7 (.slice x.a x.l.length x.q) x.l := hxo.1.below (hI1.low)
      have hxe : ∀ e ∈ x.l, e.at_ (wr.alloc (.cells #[.int .i64 x.w, .int .i64 x.p, .int .i64 x.t, .slice x.a x.l.length x.q] 29)) := fun e he => (hxo.2 e he).below hI1.low
      rw [hA0] at hwa
      have hAg : g < A0 ∧ X < A0 := ⟨by have := lt_heap hI.log.obj; omega, by have := lt_heap hI.obj; omega⟩
      have HI := Lib.hid (And.intro hI1 (And.intro hl (And.intro hwa (And.intro hxl hxe))))
      clear hcell hx hb0 hxo hI hI1 hl hba hxl hxe HR
      go_upto_region 6 with fail
      try rw [hA0]
      generalize wr.alloc (.cells #[.int .i64 x.w, .int .i64 x.p, .int .i64 x.t, .slice x.a x.l.length x.q] 29) = w1 at *
      clear hA0
      have d0 := cell_atD hwa 0 (v := .int .i64 x.w) rfl
      have d1 := cell_atD hwa 1 (v := .int .i64 x.p) rfl
      have d2 := cell_atD hwa 2 (v := .int .i64 x.t) rfl
      have d3 := cell_atD hwa 3 (v := .slice x.a x.l.length x.q) rfl
      obtain ⟨ma, mc, rfl, hmn, hmc, -⟩ := HI.out.1.el
      obtain ⟨n, hn⟩ : ∃ n, ms.length = n := ⟨_, rfl⟩
      have htn : ts.length = n := by rw [← hn]; exact HI.out.1.len.symm
      have hn6 : n ≤ 6 * j := by rw [← htn]; exact HI.out.2.1
      have hB := HI.out.1.log.bd
      rw [hn] at HI hmn
      unfold maxLen at hmc
      have HN := Lib.hid (And.intro hn htn)
      obtain ⟨P, hP⟩ : ∃ P, x.p % 32 = P := ⟨_, rfl⟩
      have hPb : 0 ≤ P ∧ P ≤ 31 := by omega
      have m31 : bits .and .i64 x.p 31 = P := (mask31 x.p).trans hP
      obtain ⟨K, hK⟩ : ∃ K, x.w % 8 = K := ⟨_, rfl⟩
      have hKb : 0 ≤ K ∧ K ≤ 7 := by omega
      have m7 : bits .and .i64 x.w 7 = K := (mask7 x.w).trans hK
      obtain ⟨f0, f1, f2⟩ := (show w1.cell? ⟨X, 0, none⟩ = some (.int .i64 B) ∧ w1.cell? ⟨X, 1, none⟩ = some (.int .i64 T) ∧ w1.cell? ⟨X, 2, none⟩ = some (.slice ma n mc) from ⟨cell_atD HI.out.1.obj 0 rfl, cell_atD HI.out.1.obj 1 rfl, cell_atD HI.out.1.obj 2 rfl⟩)
      have wBn : wrap64 (B + (n : Int)) = B + n := by unfold wrap64; omega
      clear hP hK hn htn hwa
      go_upto_block 2 with fail
      go_cut [] (fun wx => Hid (RS g X w (6 * j + 6) wx))
      case first => as_aux_lemma =>
        rcases (show K = 2 ∨ K = 3 ∨ K = 4 ∨ K = 5 ∨ K = 6 ∨ K = 7 ∨ K < 2 by omega) with rfl | rfl | rfl | rfl | rfl | rfl | hK01
        · as_aux_lemma =>
            have cn := near16S x.l x.t w1 _ HI.out.2.2.2.1 HI.out.2.2.2.2
            go_wp2_with fail
            refine Calls.mono cn ?_
            rintro ev w4 ⟨u0, es, rfl, hG, h6⟩
            have hI4 := HI.out.1.below hG.2.2
            have hwa4 := below_at hG.2.2 (lt_heap HI.out.2.2.1) HI.out.2.2.1
            have hes4 := gs_far hG HI.out.1
            have hun : ∀ b, u0.ownBlock = some b → w1.heap.size ≤ b := fun b hb => (hG.1.lt b hb).1
            have hue4 : Elts w4 EN.cells 7 u0 es := elts_row hG.1
            obtain ⟨ov, oc, rfl⟩ := hG.form
            obtain ⟨k, hk⟩ : ∃ k, es.length = k := ⟨_, rfl⟩
            rw [hk] at h6 hun hue4
            rw [hk]
            clear d0 d1 d2 d3 f0 f1 f2 cn
            have HG := Lib.hid (And.intro hI4 (And.intro hwa4 (And.intro hes4 (And.intro hun (And.intro hue4 (And.intro hk hG.2.2.size))))))
            clear hG
            have d0 := cell_atD hwa4 0 (v := .int .i64 x.w) rfl
            have d1 := cell_atD hwa4 1 (v := .int .i64 x.p) rfl
            have d2 := cell_atD hwa4 2 (v := .int .i64 x.t) rfl
            have d3 := cell_atD hwa4 3 (v := .slice x.a x.l.length x.q) rfl
            have f0 := cell_atD hI4.obj 0 (v := .int .i64 B) rfl
            have f1 := cell_atD hI4.obj 1 (v := .int .i64 T) rfl
            have f2 := cell_atD hI4.obj 2 (v := .slice ma n mc) rfl
            clear hI4 hwa4 hes4 hun hue4 hk
            have cm := mat B T P w4 _ ms HG.out.1.el hB (by rw [HN.out.1]; omega) (by omega)
            obtain ⟨t, ht⟩ : ∃ t, termG B T ms P = t := ⟨_, rfl⟩
            rw [ht] at cm
            clear ht
            unfold mdlA at cm
            obtain ⟨t0, ht0⟩ : ∃ t0, x.t % 8 = t0 := ⟨_, rfl⟩
            have m7t : bits .and .i64 x.t 7 = t0 := (mask7 x.t).trans ht0
            clear ht0
            go_wp2_with fail
            refine Calls.mono cm ?_
            rintro ev w5 ⟨rfl, hb5⟩
            have HT := Lib.hid (show RI g X w B T v ts (.slice ma n mc) ms w5 ∧ (∀ e ∈ es, mayE e.t e.x e.c = true ∧ e.lr (farB g X v) w5) ∧ (∀ b, (Value.slice ov k oc).ownBlock = some b → X < b) ∧ Elts w5 EN.cells 7 (.slice ov k oc) es ∧ es.length = k from ⟨HG.out.1.below hb5, fun e he => ⟨(HG.out.2.2.1 e he).1, (HG.out.2.2.1 e he).2.move hb5.size fun b hl hp => ⟨hb5.block b hl, hp⟩⟩, fun b hb => Nat.lt_of_lt_of_le (lt_heap HI.out.1.obj) (HG.out.2.2.2.1 b hb), HG.out.2.2.2.2.1.below hb5, HG.out.2.2.2.2.2.1⟩)
            clear hb5 cm d0 d1 d2 d3 f0 f1 f2 HG
            have ca := mapp B T P t hB (by omega) w5 _ ms HT.out.1.el (by rw [HN.out.1]; omega) _ es HT.out.2.2.2.1 (by rw [HT.out.2.2.2.2]; omega)
            unfold MappP MappQ mdlA at ca
            have f0 := cell_atD HT.out.1.obj 0 (v := .int .i64 B) rfl
            have f1 := cell_atD HT.out.1.obj 1 (v := .int .i64 T) rfl
            have f2 := cell_atD HT.out.1.obj 2 (v := .slice ma n mc) rfl
            go_wp2_with fail
            refine Calls.mono ca ?_
            rintro ev w6 ⟨v2, ms2, rfl, hel2, hk2, hmem, hnew, hb6⟩
            obtain ⟨a2, c2, rfl, -⟩ := id hel2
            obtain ⟨n2, hn2⟩ : ∃ n2, ms2.length = n2 := ⟨_, rfl⟩
            rw [hn2] at hel2 hnew ⊢
            obtain ⟨R, hR⟩ : ∃ R, (if okG B T ms P t = true then toG B P es else 0) = R := ⟨_, rfl⟩
            obtain ⟨ok, hok⟩ : ∃ ok, okG B T ms P t = ok := ⟨_, rfl⟩
            rw [hR, hok]
            have hn2l : n2 ≤ n + k := by
              have := congrArg List.length hk2
              rw [List.length_map, hn2] at this
              have := app_len B T P t ms es
              rw [HN.out.1, HT.out.2.2.2.2] at this
              omega
            have hb67 : Below w6.heap.size w6 (w6.alloc (.cells #[.int .i64 B, .int .i64 T, .slice a2 n2 c2] 27)) := (Below.refl _ _).alloc (Nat.le_refl _) _
            have hy7 := heap_alloc_self w6 (.cells #[.int .i64 B, .int .i64 T, .slice a2 n2 c2] 27)
            have hI7 := (HT.out.1.below hb6).below hb67
            have hb57 := hb6.trans (hb67.mono hb6.size)
            have cA := rappG es (by rw [HT.out.2.2.2.2]; omega) P t (by omega) _ _ g g (HT.out.2.2.2.1.below hb57) (fun b hb => by have := HT.out.2.2.1 b hb; have := HT.out.1.gX; omega) (fun e he => ⟨(HT.out.2.1 e he).1, may_short (HT.out.2.1 e he).1, ((HT.out.2.1 e he).2.at_).below hb57, far_of (HT.out.2.1 e he).2⟩) v ts hI7.log (by rw [HN.out.2]; omega)
            rw [← ok_key HT.out.1.key, hok] at cA
            rw [hok] at hR hk2
            rw [hR] at cA
            rw [HT.out.1.key] at cA
            have HU := Lib.hid (And.intro hb6 (And.intro hb67 (And.intro hel2 (And.intro hmem (And.intro hnew (And.intro hk2 (And.intro hn2 hI7.obj)))))))
            have HY7 := Lib.hid hy7
            clear hb6 hb57 hb67 hel2 hmem hnew hk2 hn2 hy7 hI7 hR hok ca f0 f1 f2
            go_upto_region 23 with fail
            obtain ⟨Y, hY⟩ : ∃ Y, w6.heap.size = Y := ⟨_, rfl⟩
            rw [hY] at HY7 ⊢
            have HYS := Lib.hid hY
            generalize w6.alloc (.cells #[.int .i64 B, .int .i64 T, .slice a2 n2 c2] 27) = w7 at *
            clear hY
            go_wp2_with fail
            refine Calls.mono cA ?_
            rintro ev w8 ⟨rfl, v3, fs, hL8, hk8, hO8, hn8⟩
            have hY8 : w8.heap[Y]? = some (.cells #[.int .i64 B, .int .i64 T, .slice a2 n2 c2] 27) := (hO8.block Y (lt_heap HY7.out) (by have := lt_heap HT.out.1.log.obj; have := HU.out.1.size; have := HYS.out; omega)).trans HY7.out
            have hX8 : w8.heap[X]? = some (.cells #[.int .i64 B, .int .i64 T, .slice ma n mc] 27) := (hO8.block X (lt_heap HU.out.2.2.2.2.2.2.2) (Nat.ne_of_gt HT.out.1.gX)).trans HU.out.2.2.2.2.2.2.2
            have hset := set3 (a' := .int .i64 B) (b' := .int .i64 T) (c' := .slice a2 n2 c2) hX8
            have hfl : fs.length ≤ 6 * j + 6 := by
              have := congrArg List.length (hk8.trans HU.out.2.2.2.2.2.1.symm)
              rw [List.length_map, List.length_map, HU.out.2.2.2.2.2.2.1] at this
              omega
            have HF := Lib.hid (show RS g X w (6 * j + 6) _ from ⟨B, T, v3, fs, .slice a2 n2 c2, ms2, HT.out.1.app HT.out.2.1 HU.out.1 HU.out.2.1 (by rw [← HU.out.2.2.2.2.2.2.1] at *; exact HU.out.2.2.1) HU.out.2.2.2.1 HU.out.2.2.2.2.1 (hk8.trans HU.out.2.2.2.2.2.1.symm) hL8 hO8 hn8 hset.2 hset.1, hfl⟩)
            have y0 := cell_atD hY8 0 (v := .int .i64 B) rfl
            have y1 := cell_atD hY8 1 (v := .int .i64 T) rfl
            have y2 := cell_atD hY8 2 (v := .slice a2 n2 c2) rfl
            have f0 := cell_atD hX8 0 (v := .int .i64 B) rfl
            have f1 := cell_atD hX8 1 (v := .int .i64 T) rfl
            have f2 := cell_atD hX8 2 (v := .slice ma n mc) rfl
            have ff : ∀ i, w8.frozen? ⟨X, i, none⟩ = false := fun i => by simp [World.frozen?, hX8]
            have hRR : (R != R) = false := by simp
            have hoo : (ok != ok) = false := by simp
            clear hL8 hk8 hO8 hn8 hset hfl hY8 hX8 cA
            go_wp2_with fail
            go_meet
            exact HF
        · as_aux_lemma =>
            have cn := near16S x.l x.t w1 _ HI.out.2.2.2.1 HI.out.2.2.2.2
            go_wp2_with fail
            refine Calls.mono cn ?_
            rintro ev w4 ⟨u0, es, rfl, hG, h6⟩
            have hI4 := HI.out.1.below hG.2.2
            have hwa4 := below_at hG.2.2 (lt_heap HI.out.2.2.1) HI.out.2.2.1
            have hes4 := gs_far hG HI.out.1
            have hun : ∀ b, u0.ownBlock = some b → w1.heap.size ≤ b := fun b hb => (hG.1.lt b hb).1
            have hue4 : Elts w4 EN.cells 7 u0 es := elts_row hG.1
            obtain ⟨ov, oc, rfl⟩ := hG.form
            obtain ⟨k, hk⟩ : ∃ k, es.length = k := ⟨_, rfl⟩
            rw [hk] at h6 hun hue4
            rw [hk]
            clear d0 d1 d2 d3 f0 f1 f2 cn
            have HG := Lib.hid (And.intro hI4 (And.intro hwa4 (And.intro hes4 (And.intro hun (And.intro hue4 (And.intro hk hG.2.2.size))))))
            clear hG
            have d0 := cell_atD hwa4 0 (v := .int .i64 x.w) rfl
            have d1 := cell_atD hwa4 1 (v := .int .i64 x.p) rfl
            have d2 := cell_atD hwa4 2 (v := .int .i64 x.t) rfl
            have d3 := cell_atD hwa4 3 (v := .slice x.a x.l.length x.q) rfl
            have f0 := cell_atD hI4.obj 0 (v := .int .i64 B) rfl
            have f1 := cell_atD hI4.obj 1 (v := .int .i64 T) rfl
            have f2 := cell_atD hI4.obj 2 (v := .slice ma n mc) rfl
            clear hI4 hwa4 hes4 hun hue4 hk
            have cm := mat B T P w4 _ ms HG.out.1.el hB (by rw [HN.out.1]; omega) (by omega)
            obtain ⟨t, ht⟩ : ∃ t, termG B T ms P = t := ⟨_, rfl⟩
            rw [ht] at cm
            clear ht
            unfold mdlA at cm
            obtain ⟨t0, ht0⟩ : ∃ t0, x.t % 8 = t0 := ⟨_, rfl⟩
            have m7t : bits .and .i64 x.t 7 = t0 := (mask7 x.t).trans ht0
            clear ht0
            go_wp2_with fail
            refine Calls.mono cm ?_
            rintro ev w5 ⟨rfl, hb5⟩
            have HT := Lib.hid (show RI g X w B T v ts (.slice ma n mc) ms w5 ∧ (∀ e ∈ es, mayE e.t e.x e.c = true ∧ e.lr (farB g X v) w5) ∧ (∀ b, (Value.slice ov k oc).ownBlock = some b → X < b) ∧ Elts w5 EN.cells 7 (.slice ov k oc) es ∧ es.length = k from ⟨HG.out.1.below hb5, fun e he => ⟨(HG.out.2.2.1 e he).1, (HG.out.2.2.1 e he).2.move hb5.size fun b hl hp => ⟨hb5.block b hl, hp⟩⟩, fun b hb => Nat.lt_of_lt_of_le (lt_heap HI.out.1.obj) (HG.out.2.2.2.1 b hb), HG.out.2.2.2.2.1.below hb5, HG.out.2.2.2.2.2.1⟩)
            clear hb5 cm d0 d1 d2 d3 f0 f1 f2 HG
            have ca := mapp B T P t hB (by omega) w5 _ ms HT.out.1.el (by rw [HN.out.1]; omega) _ es HT.out.2.2.2.1 (by rw [HT.out.2.2.2.2]; omega)
            unfold MappP MappQ mdlA at ca
            have f0 := cell_atD HT.out.1.obj 0 (v := .int .i64 B) rfl
            have f1 := cell_atD HT.out.1.obj 1 (v := .int .i64 T) rfl
            have f2 := cell_atD HT.out.1.obj 2 (v := .slice ma n mc) rfl
            go_wp2_with fail
            refine Calls.mono ca ?_
            rintro ev w6 ⟨v2, ms2, rfl, hel2, hk2, hmem, hnew, hb6⟩
            obtain ⟨a2, c2, rfl, -⟩ := id hel2
            obtain ⟨n2, hn2⟩ : ∃ n2, ms2.length = n2 := ⟨_, rfl⟩
            rw [hn2] at hel2 hnew ⊢
            obtain ⟨R, hR⟩ : ∃ R, (if okG B T ms P t = true then toG B P es else 0) = R := ⟨_, rfl⟩
            obtain ⟨ok, hok⟩ : ∃ ok, okG B T ms P t = ok := ⟨_, rfl⟩
            rw [hR, hok]
            have hn2l : n2 ≤ n + k := by
              have := congrArg List.length hk2
              rw [List.length_map, hn2] at this
              have := app_len B T P t ms es
              rw [HN.out.1, HT.out.2.2.2.2] at this
              omega
            have hb67 : Below w6.heap.size w6 (w6.alloc (.cells #[.int .i64 B, .int .i64 T, .slice a2 n2 c2] 27)) := (Below.refl _ _).alloc (Nat.le_refl _) _
            have hy7 := heap_alloc_self w6 (.cells #[.int .i64 B, .int .i64 T, .slice a2 n2 c2] 27)
            have hI7 := (HT.out.1.below hb6).below hb67
            have hb57 := hb6.trans (hb67.mono hb6.size)
            have cA := rappG es (by rw [HT.out.2.2.2.2]; omega) P t (by omega) _ _ g g (HT.out.2.2.2.1.below hb57) (fun b hb => by have := HT.out.2.2.1 b hb; have := HT.out.1.gX; omega) (fun e he => ⟨(HT.out.2.1 e he).1, may_short (HT.out.2.1 e he).1, ((HT.out.2.1 e he).2.at_).below hb57, far_of (HT.out.2.1 e he).2⟩) v ts hI7.log (by rw [HN.out.2]; omega)
            rw [← ok_key HT.out.1.key, hok] at cA
            rw [hok] at hR hk2
            rw [hR] at cA
            rw [HT.out.1.key] at cA
            have HU := Lib.hid (And.intro hb6 (And.intro hb67 (And.intro hel2 (And.intro hmem (And.intro hnew (And.intro hk2 (And.intro hn2 hI7.obj)))))))
            have HY7 := Lib.hid hy7
            clear hb6 hb57 hb67 hel2 hmem hnew hk2 hn2 hy7 hI7 hR hok ca f0 f1 f2
            go_upto_region 23 with fail
            obtain ⟨Y, hY⟩ : ∃ Y, w6.heap.size = Y := ⟨_, rfl⟩
            rw [hY] at HY7 ⊢
            have HYS := Lib.hid hY
            generalize w6.alloc (.cells #[.int .i64 B, .int .i64 T, .slice a2 n2 c2] 27) = w7 at *
            clear hY
            go_wp2_with fail
            refine Calls.mono cA ?_
            rintro ev w8 ⟨rfl, v3, fs, hL8, hk8, hO8, hn8⟩
            have hY8 : w8.heap[Y]? = some (.cells #[.int .i64 B, .int .i64 T, .slice a2 n2 c2] 27) := (hO8.block Y (lt_heap HY7.out) (by have := lt_heap HT.out.1.log.obj; have := HU.out.1.size; have := HYS.out; omega)).trans HY7.out
            have hX8 : w8.heap[X]? = some (.cells #[.int .i64 B, .int .i64 T, .slice ma n mc] 27) := (hO8.block X (lt_heap HU.out.2.2.2.2.2.2.2) (Nat.ne_of_gt HT.out.1.gX)).trans HU.out.2.2.2.2.2.2.2
            have hset := set3 (a' := .int .i64 B) (b' := .int .i64 T) (c' := .slice a2 n2 c2) hX8
            have hfl : fs.length ≤ 6 * j + 6 := by
              have := congrArg List.length (hk8.trans HU.out.2.2.2.2.2.1.symm)
              rw [List.length_map, List.length_map, HU.out.2.2.2.2.2.2.1] at this
              omega
            have HF := Lib.hid (show RS g X w (6 * j + 6) _ from ⟨B, T, v3, fs, .slice a2 n2 c2, ms2, HT.out.1.app HT.out.2.1 HU.out.1 HU.out.2.1 (by rw [← HU.out.2.2.2.2.2.2.1] at *; exact HU.out.2.2.1) HU.out.2.2.2.1 HU.out.2.2.2.2.1 (hk8.trans HU.out.2.2.2.2.2.1.symm) hL8 hO8 hn8 hset.2 hset.1, hfl⟩)
            have y0 := cell_atD hY8 0 (v := .int .i64 B) rfl
            have y1 := cell_atD hY8 1 (v := .int .i64 T) rfl
            have y2 := cell_atD hY8 2 (v := .slice a2 n2 c2) rfl
            have f0 := cell_atD hX8 0 (v := .int .i64 B) rfl
            have f1 := cell_atD hX8 1 (v := .int .i64 T) rfl
            have f2 := cell_atD hX8 2 (v := .slice ma n mc) rfl
            have ff : ∀ i, w8.frozen? ⟨X, i, none⟩ = false := fun i => by simp [World.frozen?, hX8]
            have hRR : (R != R) = false := by simp
            have hoo : (ok != ok) = false := by simp
            clear hL8 hk8 hO8 hn8 hset hfl hY8 hX8 cA
            go_wp2_with fail
            go_meet
            exact HF
        · as_aux_lemma =>
            have cn := near16S x.l x.t w1 _ HI.out.2.2.2.1 HI.out.2.2.2.2
            go_wp2_with fail
            refine Calls.mono cn ?_
            rintro ev w4 ⟨u0, es, rfl, hG, h6⟩
            have hI4 := HI.out.1.below hG.2.2
            have hwa4 := below_at hG.2.2 (lt_heap HI.out.2.2.1) HI.out.2.2.1
            have hes4 := gs_far hG HI.out.1
            have hun : ∀ b, u0.ownBlock = some b → w1.heap.size ≤ b := fun b hb => (hG.1.lt b hb).1
            have hue4 : Elts w4 EN.cells 7 u0 es := elts_row hG.1
            obtain ⟨ov, oc, rfl⟩ := hG.form
            obtain ⟨k, hk⟩ : ∃ k, es.length = k := ⟨_, rfl⟩
            rw [hk] at h6 hun hue4
            rw [hk]
            clear d0 d1 d2 d3 f0 f1 f2 cn
            have HG := Lib.hid (And.intro hI4 (And.intro hwa4 (And.intro hes4 (And.intro hun (And.intro hue4 (And.intro hk hG.2.2.size))))))
            clear hG
            have d0 := cell_atD hwa4 0 (v := .int .i64 x.w) rfl
            have d1 := cell_atD hwa4 1 (v := .int .i64 x.p) rfl
            have d2 := cell_atD hwa4 2 (v := .int .i64 x.t) rfl
            have d3 := cell_atD hwa4 3 (v := .slice x.a x.l.length x.q) rfl
            have f0 := cell_atD hI4.obj 0 (v := .int .i64 B) rfl
            have f1 := cell_atD hI4.obj 1 (v := .int .i64 T) rfl
            have f2 := cell_atD hI4.obj 2 (v := .slice ma n mc) rfl
            clear hI4 hwa4 hes4 hun hue4 hk
            obtain ⟨t, ht⟩ : ∃ t, x.t % 8 = t := ⟨_, rfl⟩
            have m7t : bits .and .i64 x.t 7 = t := (mask7 x.t).trans ht
            clear ht
            have HT := Lib.hid (show RI g X w B T v ts (.slice ma n mc) ms w4 ∧ (∀ e ∈ es, mayE e.t e.x e.c = true ∧ e.lr (farB g X v) w4) ∧ (∀ b, (Value.slice ov k oc).ownBlock = some b → X < b) ∧ Elts w4 EN.cells 7 (.slice ov k oc) es ∧ es.length = k from ⟨HG.out.1, HG.out.2.2.1, fun b hb => Nat.lt_of_lt_of_le (lt_heap HI.out.1.obj) (HG.out.2.2.2.1 b hb), HG.out.2.2.2.2.1, HG.out.2.2.2.2.2.1⟩)
            clear d1 d3 HG
            have ca := mapp B T P t hB (by omega) w4 _ ms HT.out.1.el (by rw [HN.out.1]; omega) _ es HT.out.2.2.2.1 (by rw [HT.out.2.2.2.2]; omega)
            unfold MappP MappQ mdlA at ca
            have f0 := cell_atD HT.out.1.obj 0 (v := .int .i64 B) rfl
            have f1 := cell_atD HT.out.1.obj 1 (v := .int .i64 T) rfl
            have f2 := cell_atD HT.out.1.obj 2 (v := .slice ma n mc) rfl
            go_wp2_with fail
            refine Calls.mono ca ?_
            rintro ev w6 ⟨v2, ms2, rfl, hel2, hk2, hmem, hnew, hb6⟩
            obtain ⟨a2, c2, rfl, -⟩ := id hel2
            obtain ⟨n2, hn2⟩ : ∃ n2, ms2.length = n2 := ⟨_, rfl⟩
            rw [hn2] at hel2 hnew ⊢
            obtain ⟨R, hR⟩ : ∃ R, (if okG B T ms P t = true then toG B P es else 0) = R := ⟨_, rfl⟩
            obtain ⟨ok, hok⟩ : ∃ ok, okG B T ms P t = ok := ⟨_, rfl⟩
            rw [hR, hok]
            have hn2l : n2 ≤ n + k := by
              have := congrArg List.length hk2
              rw [List.length_map, hn2] at this
              have := app_len B T P t ms es
              rw [HN.out.1, HT.out.2.2.2.2] at this
              omega
            have hb67 : Below w6.heap.size w6 (w6.alloc (.cells #[.int .i64 B, .int .i64 T, .slice a2 n2 c2] 27)) := (Below.refl _ _).alloc (Nat.le_refl _) _
            have hy7 := heap_alloc_self w6 (.cells #[.int .i64 B, .int .i64 T, .slice a2 n2 c2] 27)
            have hI7 := (HT.out.1.below hb6).below hb67
            have hb57 := hb6.trans (hb67.mono hb6.size)
            have cA := rappG es (by rw [HT.out.2.2.2.2]; omega) P t (by omega) _ _ g g (HT.out.2.2.2.1.below hb57) (fun b hb => by have := HT.out.2.2.1 b hb; have := HT.out.1.gX; omega) (fun e he => ⟨(HT.out.2.1 e he).1, may_short (HT.out.2.1 e he).1, ((HT.out.2.1 e he).2.at_).below hb57, far_of (HT.out.2.1 e he).2⟩) v ts hI7.log (by rw [HN.out.2]; omega)
            rw [← ok_key HT.out.1.key, hok] at cA
            rw [hok] at hR hk2
            rw [hR] at cA
            rw [HT.out.1.key] at cA
            have HU := Lib.hid (And.intro hb6 (And.intro hb67 (And.intro hel2 (And.intro hmem (And.intro hnew (And.intro hk2 (And.intro hn2 hI7.obj)))))))
            have HY7 := Lib.hid hy7
            clear hb6 hb57 hb67 hel2 hmem hnew hk2 hn2 hy7 hI7 hR hok ca f0 f1 f2
            go_upto_region 23 with fail
            obtain ⟨Y, hY⟩ : ∃ Y, w6.heap.size = Y := ⟨_, rfl⟩
            rw [hY] at HY7 ⊢
            have HYS := Lib.hid hY
            generalize w6.alloc (.cells #[.int .i64 B, .int .i64 T, .slice a2 n2 c2] 27) = w7 at *
            clear hY
            go_wp2_with fail
            refine Calls.mono cA ?_
            rintro ev w8 ⟨rfl, v3, fs, hL8, hk8, hO8, hn8⟩
            have hY8 : w8.heap[Y]? = some (.cells #[.int .i64 B, .int .i64 T, .slice a2 n2 c2] 27) := (hO8.block Y (lt_heap HY7.out) (by have := lt_heap HT.out.1.log.obj; have := HU.out.1.size; have := HYS.out; omega)).trans HY7.out
            have hX8 : w8.heap[X]? = some (.cells #[.int .i64 B, .int .i64 T, .slice ma n mc] 27) := (hO8.block X (lt_heap HU.out.2.2.2.2.2.2.2) (Nat.ne_of_gt HT.out.1.gX)).trans HU.out.2.2.2.2.2.2.2
            have hset := set3 (a' := .int .i64 B) (b' := .int .i64 T) (c' := .slice a2 n2 c2) hX8
            have hfl : fs.length ≤ 6 * j + 6 := by
              have := congrArg List.length (hk8.trans HU.out.2.2.2.2.2.1.symm)
              rw [List.length_map, List.length_map, HU.out.2.2.2.2.2.2.1] at this
              omega
            have HF := Lib.hid (show RS g X w (6 * j + 6) _ from ⟨B, T, v3, fs, .slice a2 n2 c2, ms2, HT.out.1.app HT.out.2.1 HU.out.1 HU.out.2.1 (by rw [← HU.out.2.2.2.2.2.2.1] at *; exact HU.out.2.2.1) HU.out.2.2.2.1 HU.out.2.2.2.2.1 (hk8.trans HU.out.2.2.2.2.2.1.symm) hL8 hO8 hn8 hset.2 hset.1, hfl⟩)
            have y0 := cell_atD hY8 0 (v := .int .i64 B) rfl
            have y1 := cell_atD hY8 1 (v := .int .i64 T) rfl
            have y2 := cell_atD hY8 2 (v := .slice a2 n2 c2) rfl
            have f0 := cell_atD hX8 0 (v := .int .i64 B) rfl
            have f1 := cell_atD hX8 1 (v := .int .i64 T) rfl
            have f2 := cell_atD hX8 2 (v := .slice ma n mc) rfl
            have ff : ∀ i, w8.frozen? ⟨X, i, none⟩ = false := fun i => by simp [World.frozen?, hX8]
            have hRR : (R != R) = false := by simp
            have hoo : (ok != ok) = false := by simp
            clear hL8 hk8 hO8 hn8 hset hfl hY8 hX8 cA
            go_wp2_with fail
            go_meet
            exact HF
        · as_aux_lemma =>
            have cC := rcutG P (by omega) w1 g g v ts HI.out.1.log (by rw [HN.out.2]; omega)
            rw [HN.out.2] at cC
            by_cases hc : B < P ∧ P ≤ B + (n : Int)
            · obtain ⟨hc1, hc2⟩ := hc
              rw [show (decide (B < P) && decide (P ≤ B + (n : Int))) = true by simp; omega] at cC
              obtain ⟨d, hd⟩ : ∃ d : Nat, P - B = d := ⟨(P - B).toNat, by omega⟩
              rw [show (P - B).toNat = d by omega] at cC
              have hw1 := HI.out.1
              obtain ⟨mb, mo, rfl, hmb⟩ : ∃ mb mo, ma = some ⟨mb, mo, none⟩ ∧ mb < w1.heap.size := by
                obtain ⟨a0, c0, e0, p1, p2, p3⟩ := HI.out.1.el
                injection e0 with e1 e2 e3
                subst e1
                rcases p3 with p3 | ⟨b, off, rfl, hb, -⟩
                · rw [HN.out.1] at p3; omega
                · exact ⟨b, off, rfl, hb⟩
              clear hw1
              go_wp2_with fail
              refine Calls.mono cC ?_
              rintro ev w4 ⟨rfl, hO4, hv4⟩
              first
                | rw [if_pos rfl] at hv4
                | rw [if_pos trivial] at hv4
                | simp only [if_true] at hv4
              obtain ⟨v4, hL4, hn4⟩ := hv4
              obtain ⟨S, hS⟩ : ∃ S, termG B T ts P = S := ⟨_, rfl⟩
              rw [hS] at hL4
              have hgl := lt_heap HI.out.1.log.obj
              have hX4 := (hO4.block X (lt_heap HI.out.1.obj) (Nat.ne_of_gt HI.out.1.gX)).trans HI.out.1.obj
              have hX4l := lt_heap hX4
              have hel4 : Elts w4 EN.cells 7 (.slice (some ⟨mb, mo, none⟩) n mc) ms := elts_move HI.out.1.el hO4.size fun hz b e hb => hO4.block b hb (HI.out.1.mrow hz b e).1
              have hsr := sr_drop (d := d) (by have := sr_elts hel4; rw [HN.out.1] at this; exact this) HN.out.1 (by omega)
              have HSR := Lib.hid (show SR w4 (.slice (if mc = d then some ⟨mb, mo, none⟩ else some ⟨mb, mo + d * 7, none⟩) (n - d) (mc - d)) 7 (n - d) (enCells (ms.drop d)) from by
                by_cases e : mc = d
                · rw [if_pos e]
                  have e2 : n - d = 0 := by omega
                  have e3 : ms.drop d = [] := List.drop_eq_nil_of_le (by rw [HN.out.1]; omega)
                  rw [e2, e3]
                  exact ⟨_, _, rfl, Nat.zero_le _, by unfold maxLen; omega, rfl, .inl rfl⟩
                · rw [if_neg e]; exact hsr)
              have cm : ∀ w', Below w4.heap.size w4 w' → Calls Try.prog 8 #[.agg #[.int .i64 B, .int .i64 T, .slice (some ⟨mb, mo, none⟩) n mc], .int .i64 P] w' fun e w'' => e = .returned (.int .i64 S) ∧ Below w'.heap.size w' w'' := fun w' hb => by
                have c := mat B T P w' _ ms (hel4.below hb) hB (by rw [HN.out.1]; omega) (by omega)
                rw [term_key HI.out.1.key, hS] at c
                exact c
              have hleaf : ∀ (wz : World) (x1 : Value), wz.ownsRow w4.heap.size 46 7 x1 (n - d) (enCells (ms.drop d)) → Below w4.heap.size w4 wz → RS g X w (6 * j + 6) (((wz.setCell ⟨X, 0, none⟩ (.int .i64 P)).setCell ⟨X, 1, none⟩ (.int .i64 S)).setCell ⟨X, 2, none⟩ x1) := fun wz x1 ho hb => by
                have hset := set3 (a' := .int .i64 P) (b' := .int .i64 S) (c' := x1) (below_at hb hX4l hX4)
                refine ⟨P, S, v4, ts.drop d, x1, ms.drop d, HI.out.1.turn (hL4.below hb) ((hO4.below (B := g) (Nat.le_refl _) (Nat.le_of_lt hgl)).trans (hb.mono (Nat.le_trans (Nat.le_of_lt hgl) hO4.size))) (Nat.le_trans hO4.size hb.size) (fun b hbl hg _ => (hb.block b (Nat.lt_of_lt_of_le hbl hO4.size)).trans (hO4.block b hbl hg)) (.inr hn4) hset.2 hset.1 (by rw [List.map_drop, List.map_drop, HI.out.1.key]) (elts_of_sr (SR.owns ho) (by rw [List.length_drop, HN.out.1])) (.inr fun _ b e => ⟨Nat.le_trans hO4.size (ho.lt b e).1, fun e2 => ?_⟩) (fun e he => .inl (List.mem_of_mem_drop he)), ?_⟩
                · obtain ⟨c2, hc2⟩ := own_typeN hL4.row e2
                  have := lt_heap hc2
                  have := (ho.lt b e).1
                  omega
                · rw [List.length_drop, HN.out.2]; omega
              have HLEAF := Lib.hid hleaf
              have H4 := Lib.hid (And.intro hL4 (And.intro hX4 (And.intro hX4l hel4)))
              have HS := Lib.hid (show S32 X (.int .i64 B) (.int .i64 T) (.slice (some ⟨mb, mo, none⟩) n mc) w4 from ⟨cell_atD hX4 0 rfl, cell_atD hX4 1 rfl, cell_atD hX4 2 rfl⟩)
              obtain ⟨i0, hi, hz0, hz1, hz2⟩ := info_parts einfoN
              have a1 : IntKind.i64.wrap (P - B) = (d : Int) := by rw [IntKind.wrap_i64]; omega
              have a3 : max (d : Int) 0 = d := by omega
              have a4 : min (d : Int) (n : Int) = d := by omega
              have a5 : ¬ ((d : Int) < 0) := by omega
              have a6 : ¬ ((n : Int) < (d : Int)) := by omega
              have a7 : (d : Int) ≤ (n : Int) := by omega
              have a8 : (n : Int) ≤ (mc : Int) := by omega
              have a9 : (d : Int) ≤ (mc : Int) := by omega
              clear cC hO4 hL4 hn4 hX4 hX4l hel4 hsr hleaf hgl hd hS d0 d1 d2 d3 f0 f1 f2
              go_upto_region 32 with fail
              have HB := Lib.hid (show Below w4.heap.size w4 w4.drew from below_drew' (Below.refl _ _))
              obtain ⟨v0, hv0⟩ : ∃ v0, v0 = w4.drew := ⟨_, rfl⟩
              refine goes_start (S := S32 X (.int .i64 B) (.int .i64 T) (.slice (some ⟨mb, mo, none⟩) n mc)) (by kernel_rfl) HS.out (fun hHeld => ?_)
              refine goes_take (i := 0) (oi := { dst := some 161, op := Go.Op.move (Go.Operand.tmp 7), type := 3, pos := "law.go:104", after := #[], guard := none }) (v := ?v44) rfl (by kernel_rfl) (by kernel_rfl) (by kernel_rfl) (fun _ _ _ h => h) (Or.inl ⟨by rfl, ?y44⟩) (by assumption) ?r44
              case y44 => (intro w hSw; obtain ⟨s1, s2, s3⟩ := hSw; go_simp; try with_reducible rfl)
              try simp only [Act.put, List.setIfInBounds_toArray, List.set_cons_zero, List.set_cons_succ]
              refine goes_take (i := 1) (oi := { dst := some 162, op := Go.Op.load 27 (Go.Operand.tmp 4), type := 27, pos := "law.go:104", after := #[], guard := none }) (v := ?v45) rfl (by kernel_rfl) (by kernel_rfl) (by kernel_rfl) (fun _ _ _ h => h) (Or.inl ⟨by rfl, ?y45⟩) (by assumption) ?r45
              case y45 => (intro w hSw; obtain ⟨s1, s2, s3⟩ := hSw; go_simp; try with_reducible rfl)
              try simp only [Act.put, List.setIfInBounds_toArray, List.set_cons_zero, List.set_cons_succ]
              refine goes_take (i := 2) (oi := { dst := some 163, op := Go.Op.move (Go.Operand.tmp 7), type := 3, pos := "law.go:104", after := #[], guard := none }) (v := ?v46) rfl (by kernel_rfl) (by kernel_rfl) (by kernel_rfl) (fun _ _ _ h => h) (Or.inl ⟨by rfl, ?y46⟩) (by assumption) ?r46
              case y46 => (intro w hSw; obtain ⟨s1, s2, s3⟩ := hSw; go_simp; try with_reducible rfl)
              try simp only [Act.put, List.setIfInBounds_toArray, List.set_cons_zero, List.set_cons_succ]
              refine goes_take (i := 5) (oi := { dst := some 166, op := Go.Op.fieldAddr 27 (Go.Operand.tmp 4) 2, type := 0, pos := "law.go:104", after := #[], guard := none }) (v := ?v47) rfl (by kernel_rfl) (by kernel_rfl) (by kernel_rfl) (fun _ _ _ h => h) (Or.inl ⟨by rfl, ?y47⟩) (by assumption) ?r47
              case y47 => (intro w hSw; obtain ⟨s1, s2, s3⟩ := hSw; go_simp; try with_reducible rfl)
              try simp only [Act.put, List.setIfInBounds_toArray, List.set_cons_zero, List.set_cons_succ]
              refine goes_take (i := 6) (oi := { dst := some 167, op := Go.Op.load 25 (Go.Operand.tmp 166), type := 25, pos := "law.go:104", after := #[{ on := 5, ground := Go.Ground.data }], guard := none }) (v := ?v48) rfl (by kernel_rfl) (by kernel_rfl) (by kernel_rfl) (fun _ _ _ h => h) (Or.inl ⟨by rfl, ?y48⟩) (by assumption) ?r48
              case y48 => (intro w hSw; obtain ⟨s1, s2, s3⟩ := hSw; go_simp; try with_reducible rfl)
              try simp only [Act.put, List.setIfInBounds_toArray, List.set_cons_zero, List.set_cons_succ]
              refine goes_take (i := 7) (oi := { dst := some 168, op := Go.Op.move (Go.Operand.tmp 7), type := 3, pos := "law.go:104", after := #[], guard := none }) (v := ?v49) rfl (by kernel_rfl) (by kernel_rfl) (by kernel_rfl) (fun _ _ _ h => h) (Or.inl ⟨by rfl, ?y49⟩) (by assumption) ?r49
              case y49 => (intro w hSw; obtain ⟨s1, s2, s3⟩ := hSw; go_simp; try with_reducible rfl)
              try simp only [Act.put, List.setIfInBounds_toArray, List.set_cons_zero, List.set_cons_succ]
              refine goes_take (i := 8) (oi := { dst := some 169, op := Go.Op.fieldAddr 27 (Go.Operand.tmp 4) 0, type := 0, pos := "law.go:104", after := #[], guard := none }) (v := ?v50) rfl (by kernel_rfl) (by kernel_rfl) (by kernel_rfl) (fun _ _ _ h => h) (Or.inl ⟨by rfl, ?y50⟩) (by assumption) ?r50
              case y50 => (intro w hSw; obtain ⟨s1, s2, s3⟩ := hSw; go_simp; try with_reducible rfl)
              try simp only [Act.put, List.setIfInBounds_toArray, List.set_cons_zero, List.set_cons_succ]
              refine goes_take (i := 9) (oi := { dst := some 170, op := Go.Op.load 3 (Go.Operand.tmp 169), type := 3, pos := "law.go:104", after := #[{ on := 8, ground := Go.Ground.data }], guard := none }) (v := ?v51) rfl (by kernel_rfl) (by kernel_rfl) (by kernel_rfl) (fun _ _ _ h => h) (Or.inl ⟨by rfl, ?y51⟩) (by assumption) ?r51
              case y51 => (intro w hSw; obtain ⟨s1, s2, s3⟩ := hSw; go_simp; try with_reducible rfl)
              try simp only [Act.put, List.setIfInBounds_toArray, List.set_cons_zero, List.set_cons_succ]
              refine goes_take (i := 10) (oi := { dst := some 171, op := Go.Op.binOp Go.BinOp.sub 3 (Go.Operand.tmp 168) (Go.Operand.tmp 170) 3, type := 3, pos := "law.go:104", after := #[{ on := 7, ground := Go.Ground.data }, { on := 9, ground := Go.Ground.data }], guard := none }) (v := ?v52) rfl (by kernel_rfl) (by kernel_rfl) (by kernel_rfl) (fun _ _ _ h => h) (Or.inl ⟨by rfl, ?y52⟩) (by assumption) ?r52
              case y52 => (intro w hSw; obtain ⟨s1, s2, s3⟩ := hSw; go_simp; try with_reducible rfl)
              try simp only [Act.put, List.setIfInBounds_toArray, List.set_cons_zero, List.set_cons_succ]
              refine goes_take (i := 11) (oi := { dst := some 172, op := Go.Op.call { callee := Go.Callee.builtin Go.Builtin.max, args := #[Go.Operand.tmp 171, Go.Operand.const (Go.Value.int Go.IntKind.i64 0)], argTypes := #[3, 3] }, type := 3, pos := "law.go:104", after := #[{ on := 10, ground := Go.Ground.data }], guard := none }) (v := ?v53) rfl (by kernel_rfl) (by kernel_rfl) (by kernel_rfl) (fun _ _ _ h => h) (Or.inl ⟨by rfl, ?y53⟩) (by assumption) ?r53
              case y53 => (intro w hSw; obtain ⟨s1, s2, s3⟩ := hSw; go_simp; try with_reducible rfl)
              try simp only [Act.put, List.setIfInBounds_toArray, List.set_cons_zero, List.set_cons_succ]
              refine goes_take (i := 12) (oi := { dst := some 173, op := Go.Op.fieldAddr 27 (Go.Operand.tmp 4) 2, type := 0, pos := "law.go:104", after := #[], guard := none }) (v := ?v54) rfl (by kernel_rfl) (by kernel_rfl) (by kernel_rfl) (fun _ _ _ h => h) (Or.inl ⟨by rfl, ?y54⟩) (by assumption) ?r54
              case y54 => (intro w hSw; obtain ⟨s1, s2, s3⟩ := hSw; go_simp; try with_reducible rfl)
              try simp only [Act.put, List.setIfInBounds_toArray, List.set_cons_zero, List.set_cons_succ]
              refine goes_take (i := 13) (oi := { dst := some 174, op := Go.Op.load 25 (Go.Operand.tmp 173), type := 25, pos := "law.go:104", after := #[{ on := 12, ground := Go.Ground.data }], guard := none }) (v := ?v55) rfl (by kernel_rfl) (by kernel_rfl) (by kernel_rfl) (fun _ _ _ h => h) (Or.inl ⟨by rfl, ?y55⟩) (by assumption) ?r55
              case y55 => (intro w hSw; obtain ⟨s1, s2, s3⟩ := hSw; go_simp; try with_reducible rfl)
              try simp only [Act.put, List.setIfInBounds_toArray, List.set_cons_zero, List.set_cons_succ]
              refine goes_take (i := 14) (oi := { dst := some 175, op := Go.Op.call { callee := Go.Callee.builtin Go.Builtin.len, args := #[Go.Operand.tmp 174], argTypes := #[25] }, type := 3, pos := "law.go:104", after := #[{ on := 13, ground := Go.Ground.data }], guard := none }) (v := ?v56) rfl (by kernel_rfl) (by kernel_rfl) (by kernel_rfl) (fun _ _ _ h => h) (Or.inl ⟨by rfl, ?y56⟩) (by assumption) ?r56
              case y56 => (intro w hSw; obtain ⟨s1, s2, s3⟩ := hSw; go_simp; try with_reducible rfl)
              try simp only [Act.put, List.setIfInBounds_toArray, List.set_cons_zero, List.set_cons_succ]
              refine goes_take (i := 15) (oi := { dst := some 176, op := Go.Op.call { callee := Go.Callee.builtin Go.Builtin.min, args := #[Go.Operand.tmp 172, Go.Operand.tmp 175], argTypes := #[3, 3] }, type := 3, pos := "law.go:104", after := #[{ on := 11, ground := Go.Ground.data }, { on := 14, ground := Go.Ground.data }], guard := none }) (v := ?v57) rfl (by kernel_rfl) (by kernel_rfl) (by kernel_rfl) (fun _ _ _ h => h) (Or.inl ⟨by rfl, ?y57⟩) (by assumption) ?r57
              case y57 => (intro w hSw; obtain ⟨s1, s2, s3⟩ := hSw; go_simp; try with_reducible rfl)
              try simp only [Act.put, List.setIfInBounds_toArray, List.set_cons_zero, List.set_cons_succ]
              refine goes_take (i := 16) (oi := { dst := some 177, op := Go.Op.slice 25 (Go.Operand.tmp 167) (some (Go.Operand.tmp 176)) none none, type := 25, pos := "law.go:104", after := #[{ on := 6, ground := Go.Ground.data }, { on := 15, ground := Go.Ground.data }], guard := none }) (v := ?v58) rfl (by kernel_rfl) (by kernel_rfl) (by kernel_rfl) (fun _ _ _ h => h) (Or.inl ⟨by rfl, ?y58⟩) (by assumption) ?r58
              case y58 => (intro w hSw; obtain ⟨s1, s2, s3⟩ := hSw; go_simp; try with_reducible rfl)
              try simp only [Act.put, List.setIfInBounds_toArray, List.set_cons_zero, List.set_cons_succ]
              rw [← hv0] at HB hHeld ⊢
              clear hv0
              refine goes_ready (rs := [3, 4]) (by kernel_rfl) (by simp) ?_
              refine GoesEach.cons (o := { dst := some 164, op := Go.Op.call { callee := Go.Callee.value (Go.Operand.func 8), args := #[Go.Operand.tmp 162, Go.Operand.tmp 163], argTypes := #[27, 3] }, type := 3, pos := "law.go:104", after := #[{ on := 1, ground := Go.Ground.data }, { on := 2, ground := Go.Ground.data }], guard := none }) rfl (fun K hK => ?_) (GoesEach.cons (o := { dst := some 165, op := Go.Op.buildSlice 25 0 #[], type := 25, pos := "law.go:104", after := #[], guard := none }) rfl (fun K hK => ?_) GoesEach.nil)
              · go_simp
                go_at_call 8
                refine Calls.mono (cm _ HB.out) ?_
                rintro ev v1 ⟨rfl, hbz⟩
                have hB := HB.out.trans (hbz.mono HB.out.size)
                try simp only []
                refine hK.out _ _ (HS.out.below hB) (fun hHeld2 => ?_)
                clear hK K hHeld
                have hHeld := hHeld2
                clear hHeld2
                try simp only [Act.put, List.setIfInBounds_toArray, List.set_cons_zero, List.set_cons_succ]
                have HB2 := Lib.hid hB
                clear HB hB hbz
                have HB := HB2
                clear HB2
                refine goes_ready (rs := [4]) (by kernel_rfl) (by simp) ?_
                refine GoesEach.cons (o := { dst := some 165, op := Go.Op.buildSlice 25 0 #[], type := 25, pos := "law.go:104", after := #[], guard := none }) rfl (fun K hK => ?_) GoesEach.nil
                rw [if_pos (by kernel_rfl)]
                refine wp_bs0R ?ho60 Try.underlying25 hi ?hr60
                case ho60 => rfl
                have hB := (HB.out.alloc HB.out.size (.cells #[] 46))
                have hO : (v1.alloc (.cells #[] 46)).ownsRow w4.heap.size 46 7 (.slice (some ⟨v1.heap.size, 0, none⟩) 0 0) 0 [] := World.ownsRow_lit (base := w4.heap.size) v1 #[] 0 HB.out.size (by decide) rfl
                refine hK.out _ _ (HS.out.below hB) (fun hHeld2 => ?_)
                clear hK K hHeld
                have hHeld := hHeld2
                clear hHeld2
                try simp only [Act.put, List.setIfInBounds_toArray, List.set_cons_zero, List.set_cons_succ]
                generalize v1.alloc (.cells #[] 46) = v2 at *
                obtain ⟨E0, hE0⟩ : ∃ E0, v1.heap.size = E0 := ⟨_, rfl⟩
                rw [hE0] at hO ⊢
                have HB2 := Lib.hid hB
                have HO := Lib.hid hO
                clear HB hB hO hE0
                have HB := HB2
                clear HB2
                refine goes_ready (rs := [17]) (by kernel_rfl) (by simp) ?_
                refine GoesEach.cons (o := { dst := some 178, op := Go.Op.call { callee := Go.Callee.builtin Go.Builtin.append, args := #[Go.Operand.tmp 165, Go.Operand.tmp 177], argTypes := #[25, 25] }, type := 25, pos := "law.go:104", after := #[{ on := 4, ground := Go.Ground.data }, { on := 16, ground := Go.Ground.data }, { on := 3, ground := Go.Ground.chain }], guard := none }) rfl (fun K hK => ?_) GoesEach.nil
                refine step_app Try.underlying25 hi hz0 hz1 hz2 rfl (by decide) rfl (.tmp 165) (.tmp 177) rfl w4.heap.size (.slice (some ⟨E0, 0, none⟩) 0 0) 0 [] (by rfl) HO.out (.slice (if mc = d then some ⟨mb, mo, none⟩ else some ⟨mb, mo + d * 7, none⟩) (n - d) (mc - d)) (n - d) (enCells (ms.drop d)) (by rfl) (HSR.out.below HB.out) (enCells_one _) (by unfold maxLen; omega) (by omega) HB.out.size ?_
                intro x1 v3 hown hgr
                have hB : Below w4.heap.size w4 v3 := HB.out.grown hgr HB.out.size (fun k e => (HO.out.lt k e).1)
                refine hK.out _ _ (HS.out.below hB) (fun hHeld2 => ?_)
                clear hK K hHeld
                have hHeld := hHeld2
                clear hHeld2
                try simp only [Act.put, List.setIfInBounds_toArray, List.set_cons_zero, List.set_cons_succ]
                have HF := Lib.hid (And.intro (show v3.ownsRow w4.heap.size 46 7 x1 (n - d) (enCells (ms.drop d)) from by simpa using hown) hB)
                clear hown hgr HB hB HO
                obtain ⟨xa, xc, rfl⟩ := owns_form3 HF.out.1
                refine goes_take (i := 18) (oi := { dst := some 179, op := Go.Op.build 27 #[(0, Go.Operand.tmp 161), (1, Go.Operand.tmp 164), (2, Go.Operand.tmp 178)], type := 27, pos := "law.go:104", after := #[{ on := 0, ground := Go.Ground.data }, { on := 3, ground := Go.Ground.data }, { on := 17, ground := Go.Ground.data }], guard := none }) (v := ?v62) rfl (by kernel_rfl) (by kernel_rfl) (by kernel_rfl) (fun _ _ _ h => h) (Or.inl ⟨by rfl, ?y62⟩) (by assumption) ?r62
                case y62 => (intro w hSw; obtain ⟨s1, s2, s3⟩ := hSw; go_simp; try with_reducible rfl)
                try simp only [Act.put, List.setIfInBounds_toArray, List.set_cons_zero, List.set_cons_succ]
                refine goes_ready (rs := [19]) (by kernel_rfl) (by simp) ?_
                refine GoesEach.last (o := { dst := none, op := Go.Op.store 27 (Go.Operand.tmp 4) (Go.Operand.tmp 179), type := 0, pos := "law.go:104", after := #[{ on := 18, ground := Go.Ground.data }, { on := 17, ground := Go.Ground.chain }, { on := 0, ground := Go.Ground.phase }, { on := 1, ground := Go.Ground.phase }, { on := 2, ground := Go.Ground.phase }, { on := 3, ground := Go.Ground.phase }, { on := 4, ground := Go.Ground.phase }, { on := 5, ground := Go.Ground.phase }, { on := 6, ground := Go.Ground.phase }, { on := 7, ground := Go.Ground.phase }, { on := 8, ground := Go.Ground.phase }, { on := 9, ground := Go.Ground.phase }, { on := 10, ground := Go.Ground.phase }, { on := 11, ground := Go.Ground.phase }, { on := 12, ground := Go.Ground.phase }, { on := 13, ground := Go.Ground.phase }, { on := 14, ground := Go.Ground.phase }, { on := 15, ground := Go.Ground.phase }, { on := 16, ground := Go.Ground.phase }, { on := 17, ground := Go.Ground.phase }, { on := 18, ground := Go.Ground.phase }], guard := none }) rfl (by kernel_rfl) (fun K hK => ?_)
                have hz := below_at HF.out.2 H4.out.2.2.1 H4.out.2.1
                have z0 := cell_atD hz 0 (v := .int .i64 B) rfl
                have z1 := cell_atD hz 1 (v := .int .i64 T) rfl
                have z2 := cell_atD hz 2 (v := .slice (some ⟨mb, mo, none⟩) n mc) rfl
                have zf : ∀ i, v3.frozen? ⟨X, i, none⟩ = false := fun i => by simp [World.frozen?, hz]
                have HM2 := Lib.hid (HLEAF.out _ _ HF.out.1 HF.out.2)
                rw [if_pos (by kernel_rfl)]
                go_simp
                refine hK.out _ _ ?_
                clear hK K z0 z1 z2 zf hz hHeld
                try simp only [Act.put, List.setIfInBounds_toArray, List.set_cons_zero, List.set_cons_succ]
                refine goes_done (by kernel_rfl) ?_ _
                go_wp2_with fail
                all_goals go_meet
                all_goals exact HM2
              · rw [if_pos (by kernel_rfl)]
                refine wp_bs0R ?ho63 Try.underlying25 hi ?hr63
                case ho63 => rfl
                have hB := (HB.out.alloc HB.out.size (.cells #[] 46))
                have hO : (v0.alloc (.cells #[] 46)).ownsRow w4.heap.size 46 7 (.slice (some ⟨v0.heap.size, 0, none⟩) 0 0) 0 [] := World.ownsRow_lit (base := w4.heap.size) v0 #[] 0 HB.out.size (by decide) rfl
                refine hK.out _ _ (HS.out.below hB) (fun hHeld2 => ?_)
                clear hK K hHeld
                have hHeld := hHeld2
                clear hHeld2
                try simp only [Act.put, List.setIfInBounds_toArray, List.set_cons_zero, List.set_cons_succ]
                generalize v0.alloc (.cells #[] 46) = v1 at *
                obtain ⟨E0, hE0⟩ : ∃ E0, v0.heap.size = E0 := ⟨_, rfl⟩
                rw [hE0] at hO ⊢
                have HB2 := Lib.hid hB
                have HO := Lib.hid hO
                clear HB hB hO hE0
                have HB := HB2
                clear HB2
                refine goes_ready (rs := [3]) (by kernel_rfl) (by simp) ?_
                refine GoesEach.cons (o := { dst := some 164, op := Go.Op.call { callee := Go.Callee.value (Go.Operand.func 8), args := #[Go.Operand.tmp 162, Go.Operand.tmp 163], argTypes := #[27, 3] }, type := 3, pos := "law.go:104", after := #[{ on := 1, ground := Go.Ground.data }, { on := 2, ground := Go.Ground.data }], guard := none }) rfl (fun K hK => ?_) GoesEach.nil
                go_simp
                go_at_call 8
                refine Calls.mono (cm _ HB.out) ?_
                rintro ev v2 ⟨rfl, hbz⟩
                have hB := HB.out.trans (hbz.mono HB.out.size)
                try simp only []
                have hO := owns_below HO.out hbz
                refine hK.out _ _ (HS.out.below hB) (fun hHeld2 => ?_)
                clear hK K hHeld
                have hHeld := hHeld2
                clear hHeld2
                try simp only [Act.put, List.setIfInBounds_toArray, List.set_cons_zero, List.set_cons_succ]
                have HB2 := Lib.hid hB
                clear HB hB hbz
                have HB := HB2
                clear HB2
                have HO2 := Lib.hid hO
                clear HO hO
                have HO := HO2
                clear HO2
                refine goes_ready (rs := [17]) (by kernel_rfl) (by simp) ?_
                refine GoesEach.cons (o := { dst := some 178, op := Go.Op.call { callee := Go.Callee.builtin Go.Builtin.append, args := #[Go.Operand.tmp 165, Go.Operand.tmp 177], argTypes := #[25, 25] }, type := 25, pos := "law.go:104", after := #[{ on := 4, ground := Go.Ground.data }, { on := 16, ground := Go.Ground.data }, { on := 3, ground := Go.Ground.chain }], guard := none }) rfl (fun K hK => ?_) GoesEach.nil
                refine step_app Try.underlying25 hi hz0 hz1 hz2 rfl (by decide) rfl (.tmp 165) (.tmp 177) rfl w4.heap.size (.slice (some ⟨E0, 0, none⟩) 0 0) 0 [] (by rfl) HO.out (.slice (if mc = d then some ⟨mb, mo, none⟩ else some ⟨mb, mo + d * 7, none⟩) (n - d) (mc - d)) (n - d) (enCells (ms.drop d)) (by rfl) (HSR.out.below HB.out) (enCells_one _) (by unfold maxLen; omega) (by omega) HB.out.size ?_
                intro x1 v3 hown hgr
                have hB : Below w4.heap.size w4 v3 := HB.out.grown hgr HB.out.size (fun k e => (HO.out.lt k e).1)
                refine hK.out _ _ (HS.out.below hB) (fun hHeld2 => ?_)
                clear hK K hHeld
                have hHeld := hHeld2
                clear hHeld2
                try simp only [Act.put, List.setIfInBounds_toArray, List.set_cons_zero, List.set_cons_succ]
                have HF := Lib.hid (And.intro (show v3.ownsRow w4.heap.size 46 7 x1 (n - d) (enCells (ms.drop d)) from by simpa using hown) hB)
                clear hown hgr HB hB HO
                obtain ⟨xa, xc, rfl⟩ := owns_form3 HF.out.1
                refine goes_take (i := 18) (oi := { dst := some 179, op := Go.Op.build 27 #[(0, Go.Operand.tmp 161), (1, Go.Operand.tmp 164), (2, Go.Operand.tmp 178)], type := 27, pos := "law.go:104", after := #[{ on := 0, ground := Go.Ground.data }, { on := 3, ground := Go.Ground.data }, { on := 17, ground := Go.Ground.data }], guard := none }) (v := ?v66) rfl (by kernel_rfl) (by kernel_rfl) (by kernel_rfl) (fun _ _ _ h => h) (Or.inl ⟨by rfl, ?y66⟩) (by assumption) ?r66
                case y66 => (intro w hSw; obtain ⟨s1, s2, s3⟩ := hSw; go_simp; try with_reducible rfl)
                try simp only [Act.put, List.setIfInBounds_toArray, List.set_cons_zero, List.set_cons_succ]
                refine goes_ready (rs := [19]) (by kernel_rfl) (by simp) ?_
                refine GoesEach.last (o := { dst := none, op := Go.Op.store 27 (Go.Operand.tmp 4) (Go.Operand.tmp 179), type := 0, pos := "law.go:104", after := #[{ on := 18, ground := Go.Ground.data }, { on := 17, ground := Go.Ground.chain }, { on := 0, ground := Go.Ground.phase }, { on := 1, ground := Go.Ground.phase }, { on := 2, ground := Go.Ground.phase }, { on := 3, ground := Go.Ground.phase }, { on := 4, ground := Go.Ground.phase }, { on := 5, ground := Go.Ground.phase }, { on := 6, ground := Go.Ground.phase }, { on := 7, ground := Go.Ground.phase }, { on := 8, ground := Go.Ground.phase }, { on := 9, ground := Go.Ground.phase }, { on := 10, ground := Go.Ground.phase }, { on := 11, ground := Go.Ground.phase }, { on := 12, ground := Go.Ground.phase }, { on := 13, ground := Go.Ground.phase }, { on := 14, ground := Go.Ground.phase }, { on := 15, ground := Go.Ground.phase }, { on := 16, ground := Go.Ground.phase }, { on := 17, ground := Go.Ground.phase }, { on := 18, ground := Go.Ground.phase }], guard := none }) rfl (by kernel_rfl) (fun K hK => ?_)
                have hz := below_at HF.out.2 H4.out.2.2.1 H4.out.2.1
                have z0 := cell_atD hz 0 (v := .int .i64 B) rfl
                have z1 := cell_atD hz 1 (v := .int .i64 T) rfl
                have z2 := cell_atD hz 2 (v := .slice (some ⟨mb, mo, none⟩) n mc) rfl
                have zf : ∀ i, v3.frozen? ⟨X, i, none⟩ = false := fun i => by simp [World.frozen?, hz]
                have HM2 := Lib.hid (HLEAF.out _ _ HF.out.1 HF.out.2)
                rw [if_pos (by kernel_rfl)]
                go_simp
                refine hK.out _ _ ?_
                clear hK K z0 z1 z2 zf hz hHeld
                try simp only [Act.put, List.setIfInBounds_toArray, List.set_cons_zero, List.set_cons_succ]
                refine goes_done (by kernel_rfl) ?_ _
                go_wp2_with fail
                all_goals go_meet
                all_goals exact HM2
            · have hd : (decide (B < P) && decide (P ≤ B + (n : Int))) = false := by
                rcases Classical.em (B < P) with h | h
                · rw [show decide (P ≤ B + (n : Int)) = false by simp; have := fun h2 => hc ⟨h, h2⟩; omega, Bool.and_false]
                · rw [show decide (B < P) = false by simpa using h, Bool.false_and]
              rw [hd] at cC
              have h45 : ∀ w4, Only g w1 w4 → LogG B T w4 g g v ts → RS g X w (6 * j + 6) w4 := fun w4 hO4 hL4 => by
                have hX4 := (hO4.block X (lt_heap HI.out.1.obj) (Nat.ne_of_gt HI.out.1.gX)).trans HI.out.1.obj
                have hgl := lt_heap HI.out.1.log.obj
                have hel4 : Elts w4 EN.cells 7 (.slice ma n mc) ms := elts_move HI.out.1.el hO4.size fun hz b e hb => hO4.block b hb (HI.out.1.mrow hz b e).1
                exact ⟨B, T, v, ts, _, ms, HI.out.1.turn hL4 (hO4.below (B := g) (Nat.le_refl _) (Nat.le_of_lt hgl)) hO4.size (fun b hbl hg _ => hO4.block b hbl hg) (.inl rfl) (Only.refl _ _) hX4 HI.out.1.key hel4 (.inl ⟨rfl, rfl⟩) (fun e he => .inl he), by rw [HN.out.2]; omega⟩
              have H45 := Lib.hid h45
              clear h45 hd
              by_cases k1 : B < P
              · have k2 : ¬ (P ≤ B + (n : Int)) := fun h => hc ⟨k1, h⟩
                clear hc
                go_wp2_with fail
                refine Calls.mono cC ?_
                rintro ev w4 ⟨rfl, hO4, hv4⟩
                have HF := Lib.hid (H45.out w4 hO4 (by simpa using hv4))
                clear hO4 hv4 cC d0 d1 d2 d3 f0 f1 f2
                go_wp2_with fail
                go_meet
                exact HF
              · clear hc
                go_wp2_with fail
                refine Calls.mono cC ?_
                rintro ev w4 ⟨rfl, hO4, hv4⟩
                have HF := Lib.hid (H45.out w4 hO4 (by simpa using hv4))
                clear hO4 hv4 cC d0 d1 d2 d3 f0 f1 f2
                go_wp2_with fail
                go_meet
                exact HF
        · as_aux_lemma =>
            obtain ⟨t3, ht3⟩ : ∃ t3, x.t % 4 = t3 := ⟨_, rfl⟩
            have m3t : bits .and .i64 x.t 3 = t3 := (mask3 x.t).trans ht3
            obtain ⟨t, ht⟩ : ∃ t, x.t % 8 = t := ⟨_, rfl⟩
            have htb : 0 ≤ t ∧ t ≤ 7 := by omega
            have m7t : bits .and .i64 x.t 7 = t := (mask7 x.t).trans ht
            clear ht3 ht
            by_cases h3 : t3 = 0
            · subst h3
              have cR := rresetG P t (by omega) (by omega) w1 g g v ts HI.out.1.log
              have hA := HI.out.2.2.1
              go_wp2_with fail
              refine Calls.mono cR ?_
              rintro ev w4 ⟨rfl, hL4, hO4⟩
              have hX4 := (hO4.block X (lt_heap HI.out.1.obj) (Nat.ne_of_gt HI.out.1.gX)).trans HI.out.1.obj
              have hA4 := (hO4.block A0 (lt_heap hA) (by omega)).trans hA
              have hset := set3 (a' := .int .i64 P) (b' := .int .i64 t) (c' := .slice none 0 0) hX4
              have hgl := lt_heap HI.out.1.log.obj
              have HF := Lib.hid (show RS g X w (6 * j + 6) _ from ⟨P, t, .slice none 0 0, [], .slice none 0 0, [], HI.out.1.turn hL4 (hO4.below (B := g) (Nat.le_refl _) (Nat.le_of_lt hgl)) hO4.size (fun b hb hg _ => hO4.block b hb hg) (.inr fun k e => by simp [Value.ownBlock] at e) hset.2 hset.1 rfl ⟨none, 0, rfl, by simp, by decide, .inl rfl⟩ (.inr fun h => absurd rfl h) (by simp), by simp⟩)
              clear d0 d1 d2 d3 f0 f1 f2
              have d0 := cell_atD hA4 0 (v := .int .i64 x.w) rfl
              have d1 := cell_atD hA4 1 (v := .int .i64 x.p) rfl
              have d2 := cell_atD hA4 2 (v := .int .i64 x.t) rfl
              have d3 := cell_atD hA4 3 (v := .slice x.a x.l.length x.q) rfl
              have f0 := cell_atD hX4 0 (v := .int .i64 B) rfl
              have f1 := cell_atD hX4 1 (v := .int .i64 T) rfl
              have f2 := cell_atD hX4 2 (v := .slice ma n mc) rfl
              have ff : ∀ i, w4.frozen? ⟨X, i, none⟩ = false := fun i => by simp [World.frozen?, hX4]
              clear hL4 hO4 hX4 hA4 hset cR hA hgl
              go_wp2_with fail
              go_meet
              exact HF
            · have h3' : (t3 == 0) = false := by simpa using h3
              have HF := Lib.hid (show RS g X w (6 * j + 6) w1 from ⟨B, T, v, ts, _, ms, HI.out.1, by rw [HN.out.2]; omega⟩)
              go_wp2_with fail
              go_meet
              exact HF
        · as_aux_lemma =>
            obtain ⟨Q, hQ⟩ : ∃ Q, x.t % 16 = Q := ⟨_, rfl⟩
            have hQb : 0 ≤ Q ∧ Q ≤ 15 := by omega
            have m15 : bits .and .i64 x.t 15 = Q := (mask15 x.t).trans hQ
            clear hQ
            have cF := rfromG P Q (by omega) (by omega) w1 g g v ts HI.out.1.log (by rw [HN.out.2]; omega) (HI.out.1.shorts)
            unfold FromP at cF
            go_wp2_with fail
            refine Calls.mono cF ?_
            rintro ev w4 ⟨u0, fs, rfl, hR, hk, hb4⟩
            have hel4 : Elts w4 EN.cells 7 u0 fs := elts_row hR.1
            obtain ⟨uc, uq, rfl⟩ := owns_form3 hR.1
            have hat4 : ∀ e ∈ fs, e.at_ w4 := fun e he => CFO.at_ (hR.2 e he)
            have hcon := from_cond HN.out.2 hQb.1 hk
            have hget := fun i e (he : fs[i]? = some e) => from_get hk HI.out.1.key he
            obtain ⟨L, hL⟩ : ∃ L, fs.length = L := ⟨_, rfl⟩
            rw [hL] at hcon hel4 ⊢
            have hA4 := below_at hb4 (lt_heap HI.out.2.2.1) HI.out.2.2.1
            have HU := Lib.hid (And.intro (HI.out.1.below hb4) (And.intro hA4 (And.intro hel4 (And.intro hat4 (And.intro hcon (And.intro hget hL))))))
            clear hR hk hb4 hel4 hat4 hcon hget hL hA4 cF d0 d1 d2 d3 f0 f1 f2 e0 e1 e2 e3
            have hL15 : L ≤ 16 := by
              rcases Nat.lt_or_ge 16 L with h | h
              · have := ((HU.out.2.2.2.2.1 16 (by omega)).2 (by omega)).2.2; omega
              · exact h
            go_upto_region 39 with fail
            go_wp2_with fail
            go_loopw [18, 19] (fun kv xv wx => ∃ i : Nat, i ≤ L ∧ kv = .int .i64 (i : Int) ∧ xv = .int .i64 (P + (i : Int)) ∧ Hid (Below w4.heap.size w4 wx)) (fun kv _ _ => L - (intOf kv).toNat)
            case atStart => exact ⟨0, Nat.zero_le _, rfl, by simp, Lib.hid (Below.refl _ _)⟩
            case round =>
              obtain ⟨i, hi, rfl, rfl, HB⟩ := hrel
              have hI5 := HU.out.1.below HB.out
              have hA5 := below_at HB.out (lt_heap HU.out.2.1) HU.out.2.1
              have f0 := cell_atD hI5.obj 0 (v := .int .i64 B) rfl
              have f1 := cell_atD hI5.obj 1 (v := .int .i64 T) rfl
              have f2 := cell_atD hI5.obj 2 (v := .slice ma n mc) rfl
              have d2 := cell_atD hA5 2 (v := .int .i64 x.t) rfl
              by_cases hiL : i < L
              · obtain ⟨c1, c2, c3⟩ := (HU.out.2.2.2.2.1 i hi).2 hiL
                obtain ⟨e, he⟩ : ∃ e, fs[i]? = some e := ⟨_, List.getElem?_eq_getElem (by rw [HU.out.2.2.2.2.2.2]; exact hiL)⟩
                obtain ⟨dd, f, hdd, hf, hkk⟩ := HU.out.2.2.2.2.2.1 i e he
                obtain ⟨ub, uo, rfl, hub, l0, l1, l2, l3, l4, l5, l6⟩ := en_loads HU.out.2.2.1 HB.out he
                obtain ⟨mb, mo, rfl, hmb, r0, r1, r2, r3, r4, r5, r6⟩ := en_loads HU.out.1.el HB.out hf
                have hbd : Below wr.heap.size wr wr.drew := below_drew' (Below.refl _ _)
                have hae := ((HU.out.2.2.2.1 e (List.mem_of_getElem? he)).below HB.out).below hbd
                have haf := ((((HU.out.1.may f (List.mem_of_getElem? hf)).2.at_).below HB.out)).below hbd
                have cs := rsameE e.t e.x e.c f.t f.x f.c e.a1 e.a2 f.a1 f.a2 e.q1 e.q2 f.q1 f.q2 wr.drew hae haf
                have hs : sameE e.t e.x e.c f.t f.x f.c = true := sameEN_key hkk
                rw [hs] at cs
                have hddn : dd < n := by
                  have := (List.getElem?_eq_some_iff.1 hf).1
                  rw [HN.out.1] at this; exact this
                obtain ⟨Z, hZ⟩ : ∃ Z, P + (i : Int) - B = Z := ⟨_, rfl⟩
                have wd1 : IntKind.i64.wrap (P + (i : Int) - B) = Z := by rw [IntKind.wrap_i64]; omega
                have wd2 : IntKind.i64.wrap (Z - 1) = (dd : Int) := by rw [IntKind.wrap_i64]; omega
                have wd3 : (dd : Int) < (n : Int) := by omega
                have wd4 : (i : Int) < (L : Int) := by omega
                have wd5 : ¬ ((L : Int) ≤ (i : Int)) := by omega
                have hin2 : decide ((L : Int) ≤ (i : Int)) = false := by simp; omega
                clear hI5 hA5 hkk he hf hbd hae haf hs hdd hZ
                go_upto_region 43 with fail
                go_still_tail 18, (by kernel_rfl)
                change wpList _ _ _ _ _ wr.drew
                go_wp2_with fail
                refine Calls.mono cs ?_
                rintro ev W7 ⟨rfl, hb7⟩
                have HB7 := Lib.hid (HB.out.trans ((below_of_drew hb7).mono HB.out.size))
                clear hb7 cs l0 l1 l2 l3 l4 l5 l6 r0 r1 r2 r3 r4 r5 r6
                go_wp2_with fail
                go_roundw
                case rel => exact ⟨i + 1, by omega, by go_num, by simp [Int.add_assoc], HB7⟩
                case measure => simp [intOf]; omega
              · obtain rfl : i = L := by omega
                have HF := Lib.hid (show RS g X w (6 * j + 6) wr from ⟨B, T, v, ts, _, ms, hI5, by rw [HN.out.2]; omega⟩)
                have hno := mt (HU.out.2.2.2.2.1 i hi).1 hiL
                have hLL : ((i : Int) != (i : Int)) = false := by simp
                clear hI5 hA5
                by_cases k1 : P + (i : Int) ≤ B + n
                · by_cases k2 : B < P + (i : Int)
                  · have k3 : ¬ ((i : Int) < Q) := fun h => hno ⟨k1, k2, h⟩
                    clear hno
                    go_wp2_with fail
                    go_meet
                    exact HF
                  · clear hno
                    go_wp2_with fail
                    go_meet
                    exact HF
                · clear hno
                  go_wp2_with fail
                  go_meet
                  exact HF
        · as_aux_lemma =>
            have q2 : (K == 2) = false := by simp; omega
            have q3 : (K == 3) = false := by simp; omega
            have q4 : (K == 4) = false := by simp; omega
            have q5 : (K == 5) = false := by simp; omega
            have q6 : (K == 6) = false := by simp; omega
            have q7 : (K == 7) = false := by simp; omega
            have hS9 : S9 A0 (.int .i64 x.t) (.slice x.a x.l.length x.q) w1 := ⟨d2, d3⟩
            have HS9 := Lib.hid hS9
            obtain ⟨i0, hi, hz0, hz1, hz2⟩ := info_parts einfoN
            obtain ⟨k5, hk5⟩ : ∃ k5, min x.l.length 5 = k5 := ⟨_, rfl⟩
            have hk5l : k5 ≤ x.l.length := by omega
            have HK5 := Lib.hid (show (x.l.take k5).length = k5 by rw [List.length_take, Nat.min_eq_left hk5l])
            have HSR := Lib.hid (sr_take (c := x.q) HI.out.2.2.2.1 rfl k5 hk5l)
            have hxq := (show x.l.length ≤ x.q ∧ x.q ≤ maxLen from by obtain ⟨a, c, e, h1, h2, -⟩ := HI.out.2.2.2.1; injection e with e1 e2 e3; subst e3; exact ⟨h1, h2⟩)
            unfold maxLen at hxq
            have a1 : min (x.l.length : Int) 5 = (k5 : Int) := by omega
            have a2 : ¬ ((k5 : Int) < 0) := by omega
            have a3 : (k5 : Int) ≤ (x.l.length : Int) := by omega
            have a4 : (k5 : Int) ≤ (x.q : Int) := by omega
            have a5 : k5 ≤ 5 := by omega
            clear hS9 hk5
            go_upto_region 9 with fail
            go_cut [20] (fun s wx => CUT9 w1 s wx)
            case first => as_aux_lemma =>
              have HB := Lib.hid (show Below w1.heap.size w1 w1.drew from below_drew' (Below.refl _ _))
              obtain ⟨v0, hv0⟩ : ∃ v0, v0 = w1.drew := ⟨_, rfl⟩
              refine goes_start (S := S9 A0 (.int .i64 x.t) (.slice x.a x.l.length x.q)) (by kernel_rfl) HS9.out (fun hHeld => ?_)
              refine goes_take (i := 1) (oi := { dst := some 56, op := Go.Op.fieldAddr 29 (Go.Operand.tmp 6) 3, type := 0, pos := "law.go:124", after := #[], guard := none }) (v := ?v1) rfl (by kernel_rfl) (by kernel_rfl) (by kernel_rfl) (fun _ _ _ h => h) (Or.inl ⟨by rfl, ?y1⟩) (by assumption) ?r1
              case y1 => (intro w hSw; obtain ⟨s1, s2⟩ := hSw; go_simp; try with_reducible rfl)
              try simp only [Act.put, List.setIfInBounds_toArray, List.set_cons_zero, List.set_cons_succ]
              refine goes_take (i := 2) (oi := { dst := some 57, op := Go.Op.load 25 (Go.Operand.tmp 56), type := 25, pos := "law.go:124", after := #[{ on := 1, ground := Go.Ground.data }], guard := none }) (v := ?v2) rfl (by kernel_rfl) (by kernel_rfl) (by kernel_rfl) (fun _ _ _ h => h) (Or.inl ⟨by rfl, ?y2⟩) (by assumption) ?r2
              case y2 => (intro w hSw; obtain ⟨s1, s2⟩ := hSw; go_simp; try with_reducible rfl)
              try simp only [Act.put, List.setIfInBounds_toArray, List.set_cons_zero, List.set_cons_succ]
              refine goes_take (i := 3) (oi := { dst := some 58, op := Go.Op.fieldAddr 29 (Go.Operand.tmp 6) 3, type := 0, pos := "law.go:124", after := #[], guard := none }) (v := ?v3) rfl (by kernel_rfl) (by kernel_rfl) (by kernel_rfl) (fun _ _ _ h => h) (Or.inl ⟨by rfl, ?y3⟩) (by assumption) ?r3
              case y3 => (intro w hSw; obtain ⟨s1, s2⟩ := hSw; go_simp; try with_reducible rfl)
              try simp only [Act.put, List.setIfInBounds_toArray, List.set_cons_zero, List.set_cons_succ]
              refine goes_take (i := 4) (oi := { dst := some 59, op := Go.Op.load 25 (Go.Operand.tmp 58), type := 25, pos := "law.go:124", after := #[{ on := 3, ground := Go.Ground.data }], guard := none }) (v := ?v4) rfl (by kernel_rfl) (by kernel_rfl) (by kernel_rfl) (fun _ _ _ h => h) (Or.inl ⟨by rfl, ?y4⟩) (by assumption) ?r4
              case y4 => (intro w hSw; obtain ⟨s1, s2⟩ := hSw; go_simp; try with_reducible rfl)
              try simp only [Act.put, List.setIfInBounds_toArray, List.set_cons_zero, List.set_cons_succ]
              refine goes_take (i := 5) (oi := { dst := some 60, op := Go.Op.call { callee := Go.Callee.builtin Go.Builtin.len, args := #[Go.Operand.tmp 59], argTypes := #[25] }, type := 3, pos := "law.go:124", after := #[{ on := 4, ground := Go.Ground.data }], guard := none }) (v := ?v5) rfl (by kernel_rfl) (by kernel_rfl) (by kernel_rfl) (fun _ _ _ h => h) (Or.inl ⟨by rfl, ?y5⟩) (by assumption) ?r5
              case y5 => (intro w hSw; obtain ⟨s1, s2⟩ := hSw; go_simp; try with_reducible rfl)
              try simp only [Act.put, List.setIfInBounds_toArray, List.set_cons_zero, List.set_cons_succ]
              refine goes_take (i := 6) (oi := { dst := some 61, op := Go.Op.call { callee := Go.Callee.builtin Go.Builtin.min, args := #[Go.Operand.tmp 60, Go.Operand.const (Go.Value.int Go.IntKind.i64 5)], argTypes := #[3, 3] }, type := 3, pos := "law.go:124", after := #[{ on := 5, ground := Go.Ground.data }], guard := none }) (v := ?v6) rfl (by kernel_rfl) (by kernel_rfl) (by kernel_rfl) (fun _ _ _ h => h) (Or.inl ⟨by rfl, ?y6⟩) (by assumption) ?r6
              case y6 => (intro w hSw; obtain ⟨s1, s2⟩ := hSw; go_simp; try with_reducible rfl)
              try simp only [Act.put, List.setIfInBounds_toArray, List.set_cons_zero, List.set_cons_succ]
              refine goes_take (i := 7) (oi := { dst := some 62, op := Go.Op.slice 25 (Go.Operand.tmp 57) none (some (Go.Operand.tmp 61)) none, type := 25, pos := "law.go:124", after := #[{ on := 2, ground := Go.Ground.data }, { on := 6, ground := Go.Ground.data }], guard := none }) (v := ?v7) rfl (by kernel_rfl) (by kernel_rfl) (by kernel_rfl) (fun _ _ _ h => h) (Or.inl ⟨by rfl, ?y7⟩) (by assumption) ?r7
              case y7 => (intro w hSw; obtain ⟨s1, s2⟩ := hSw; go_simp; try with_reducible rfl)
              try simp only [Act.put, List.setIfInBounds_toArray, List.set_cons_zero, List.set_cons_succ]
              refine goes_take (i := 9) (oi := { dst := some 64, op := Go.Op.build 46 #[], type := 46, pos := "law.go:124", after := #[], guard := none }) (v := ?v8) rfl (by kernel_rfl) (by kernel_rfl) (by kernel_rfl) (fun _ _ _ h => h) (Or.inl ⟨by rfl, ?y8⟩) (by assumption) ?r8
              case y8 => (intro w hSw; obtain ⟨s1, s2⟩ := hSw; go_simp; try with_reducible rfl)
              try simp only [Act.put, List.setIfInBounds_toArray, List.set_cons_zero, List.set_cons_succ]
              refine goes_take (i := 12) (oi := { dst := some 67, op := Go.Op.fieldAddr 29 (Go.Operand.tmp 6) 2, type := 0, pos := "law.go:124", after := #[], guard := none }) (v := ?v9) rfl (by kernel_rfl) (by kernel_rfl) (by kernel_rfl) (fun _ _ _ h => h) (Or.inl ⟨by rfl, ?y9⟩) (by assumption) ?r9
              case y9 => (intro w hSw; obtain ⟨s1, s2⟩ := hSw; go_simp; try with_reducible rfl)
              try simp only [Act.put, List.setIfInBounds_toArray, List.set_cons_zero, List.set_cons_succ]
              refine goes_take (i := 13) (oi := { dst := some 68, op := Go.Op.load 3 (Go.Operand.tmp 67), type := 3, pos := "law.go:124", after := #[{ on := 12, ground := Go.Ground.data }], guard := none }) (v := ?v10) rfl (by kernel_rfl) (by kernel_rfl) (by kernel_rfl) (fun _ _ _ h => h) (Or.inl ⟨by rfl, ?y10⟩) (by assumption) ?r10
              case y10 => (intro w hSw; obtain ⟨s1, s2⟩ := hSw; go_simp; try with_reducible rfl)
              try simp only [Act.put, List.setIfInBounds_toArray, List.set_cons_zero, List.set_cons_succ]
              rw [← hv0] at HB hHeld ⊢
              clear hv0
              refine goes_ready (rs := [0, 10]) (by kernel_rfl) (by simp) ?_
              refine GoesEach.cons (o := { dst := some 55, op := Go.Op.buildSlice 25 0 #[], type := 25, pos := "law.go:124", after := #[], guard := none }) rfl (fun K hK => ?_) (GoesEach.cons (o := { dst := some 65, op := Go.Op.buildSlice 25 1 #[(0, Go.Operand.tmp 64)], type := 25, pos := "law.go:124", after := #[{ on := 9, ground := Go.Ground.data }], guard := none }) rfl (fun K hK => ?_) GoesEach.nil)
              · rw [if_pos (by kernel_rfl)]
                refine wp_bs0R ?ho11 Try.underlying25 hi ?hr11
                case ho11 => rfl
                have hB := (HB.out.alloc HB.out.size (.cells #[] 46))
                have hO : (v0.alloc (.cells #[] 46)).ownsRow w1.heap.size 46 7 (.slice (some ⟨v0.heap.size, 0, none⟩) 0 0) 0 [] := World.ownsRow_lit (base := w1.heap.size) v0 #[] 0 HB.out.size (by decide) rfl
                refine hK.out _ _ (HS9.out.below hB) (fun hHeld2 => ?_)
                clear hK K hHeld
                have hHeld := hHeld2
                clear hHeld2
                try simp only [Act.put, List.setIfInBounds_toArray, List.set_cons_zero, List.set_cons_succ]
                generalize v0.alloc (.cells #[] 46) = v1 at *
                obtain ⟨E0, hE0⟩ : ∃ E0, v0.heap.size = E0 := ⟨_, rfl⟩
                rw [hE0] at hO ⊢
                have HB2 := Lib.hid hB
                have HO := Lib.hid hO
                clear HB hB hO
                have HB := HB2
                clear HB2
                have HE0 := Lib.hid hE0
                refine goes_ready (rs := [8, 10]) (by kernel_rfl) (by simp) ?_
                refine GoesEach.cons (o := { dst := some 63, op := Go.Op.call { callee := Go.Callee.builtin Go.Builtin.append, args := #[Go.Operand.tmp 55, Go.Operand.tmp 62], argTypes := #[25, 25] }, type := 25, pos := "law.go:124", after := #[{ on := 0, ground := Go.Ground.data }, { on := 7, ground := Go.Ground.data }], guard := none }) rfl (fun K hK => ?_) (GoesEach.cons (o := { dst := some 65, op := Go.Op.buildSlice 25 1 #[(0, Go.Operand.tmp 64)], type := 25, pos := "law.go:124", after := #[{ on := 9, ground := Go.Ground.data }], guard := none }) rfl (fun K hK => ?_) GoesEach.nil)
                · refine step_app Try.underlying25 hi hz0 hz1 hz2 rfl (by decide) rfl (.tmp 55) (.tmp 62) rfl w1.heap.size (.slice (some ⟨E0, 0, none⟩) 0 0) 0 [] (by rfl) HO.out (.slice x.a k5 x.q) k5 (enCells (x.l.take k5)) (by rfl) (HSR.out.below HB.out) (enCells_one _) (by unfold maxLen; omega) (by omega) HB.out.size ?_
                  intro x1 v2 hown hgr
                  have hB : Below w1.heap.size w1 v2 := HB.out.grown hgr HB.out.size (fun k e => (HO.out.lt k e).1)
                  refine hK.out _ _ (HS9.out.below hB) (fun hHeld2 => ?_)
                  clear hK K hHeld
                  have hHeld := hHeld2
                  clear hHeld2
                  try simp only [Act.put, List.setIfInBounds_toArray, List.set_cons_zero, List.set_cons_succ]
                  have HA := Lib.hid (show v2.ownsRow w1.heap.size 46 7 x1 k5 (enCells (x.l.take k5)) from by simpa using hown)
                  have HB2 := Lib.hid hB
                  clear HB hB hown
                  have HB := HB2
                  clear HB2
                  clear hgr
                  refine goes_ready (rs := [10]) (by kernel_rfl) (by simp) ?_
                  refine GoesEach.cons (o := { dst := some 65, op := Go.Op.buildSlice 25 1 #[(0, Go.Operand.tmp 64)], type := 25, pos := "law.go:124", after := #[{ on := 9, ground := Go.Ground.data }], guard := none }) rfl (fun K hK => ?_) GoesEach.nil
                  rw [if_pos (by kernel_rfl)]
                  refine wp_bs1R (.tmp 64) ?ho13 Try.underlying25 hi hz0 hz1 rfl (by decide) (by decide) #[.int .i64 0, .int .i64 0, .int .i64 0, .int .i64 0, .int .i64 0, .slice none 0 0, .slice none 0 0] ?hx13 rfl ?hr13
                  case ho13 => rfl
                  case hx13 => rfl
                  have hB := (HB.out.alloc HB.out.size (.cells #[.int .i64 0, .int .i64 0, .int .i64 0, .int .i64 0, .int .i64 0, .slice none 0 0, .slice none 0 0] 46))
                  have hLt : SR (v2.alloc (.cells #[.int .i64 0, .int .i64 0, .int .i64 0, .int .i64 0, .int .i64 0, .slice none 0 0, .slice none 0 0] 46)) (.slice (some ⟨v2.heap.size, 0, none⟩) 1 1) 7 1 (enCells [enZ 0]) := SR.lit v2 _ #[.int .i64 0, .int .i64 0, .int .i64 0, .int .i64 0, .int .i64 0, .slice none 0 0, .slice none 0 0] 7 1 (by decide) rfl
                  have hlt19 : v2.heap.size < (v2.alloc (.cells #[.int .i64 0, .int .i64 0, .int .i64 0, .int .i64 0, .int .i64 0, .slice none 0 0, .slice none 0 0] 46)).heap.size := by simp
                  have hA := owns_below HA.out ((Below.refl v2.heap.size v2).alloc (Nat.le_refl _) (.cells #[.int .i64 0, .int .i64 0, .int .i64 0, .int .i64 0, .int .i64 0, .slice none 0 0, .slice none 0 0] 46))
                  refine hK.out _ _ (HS9.out.below hB) (fun hHeld2 => ?_)
                  clear hK K hHeld
                  have hHeld := hHeld2
                  clear hHeld2
                  try simp only [Act.put, List.setIfInBounds_toArray, List.set_cons_zero, List.set_cons_succ]
                  generalize v2.alloc (.cells #[.int .i64 0, .int .i64 0, .int .i64 0, .int .i64 0, .int .i64 0, .slice none 0 0, .slice none 0 0] 46) = v3 at *
                  have HB2 := Lib.hid hB
                  clear HB hB
                  have HB := HB2
                  clear HB2
                  obtain ⟨F0, hF0⟩ : ∃ F0, v2.heap.size = F0 := ⟨_, rfl⟩
                  rw [hF0] at hLt hlt19 ⊢
                  have HLt := Lib.hid (And.intro hLt hlt19)
                  clear hLt hlt19
                  have HA2 := Lib.hid hA
                  clear HA hA
                  have HA := HA2
                  clear HA2
                  refine goes_ready (rs := [11]) (by kernel_rfl) (by simp) ?_
                  refine GoesEach.cons (o := { dst := some 66, op := Go.Op.call { callee := Go.Callee.builtin Go.Builtin.append, args := #[Go.Operand.tmp 63, Go.Operand.tmp 65], argTypes := #[25, 25] }, type := 25, pos := "law.go:124", after := #[{ on := 8, ground := Go.Ground.data }, { on := 10, ground := Go.Ground.data }, { on := 8, ground := Go.Ground.chain }], guard := none }) rfl (fun K hK => ?_) GoesEach.nil
                  refine step_app Try.underlying25 hi hz0 hz1 hz2 rfl (by decide) rfl (.tmp 63) (.tmp 65) rfl w1.heap.size x1 k5 (enCells (x.l.take k5)) (by rfl) HA.out (.slice (some ⟨F0, 0, none⟩) 1 1) 1 (enCells [enZ 0]) (by rfl) HLt.out.1 (enCells_one _) (by unfold maxLen; omega) (by omega) HB.out.size ?_
                  intro x2 v4 hown hgr
                  have hB : Below w1.heap.size w1 v4 := HB.out.grown hgr HB.out.size (fun k e => (HA.out.lt k e).1)
                  refine hK.out _ _ (HS9.out.below hB) (fun hHeld2 => ?_)
                  clear hK K hHeld
                  have hHeld := hHeld2
                  clear hHeld2
                  try simp only [Act.put, List.setIfInBounds_toArray, List.set_cons_zero, List.set_cons_succ]
                  have HF := Lib.hid (And.intro hown hB)
                  clear hown hgr HB hB
                  refine goes_ready (rs := [14]) (by kernel_rfl) (by simp) ?_
                  refine GoesEach.cons (o := { dst := some 69, op := Go.Op.call { callee := Go.Callee.value (Go.Operand.func 7), args := #[Go.Operand.tmp 66, Go.Operand.tmp 68], argTypes := #[25, 3] }, type := 25, pos := "law.go:124", after := #[{ on := 11, ground := Go.Ground.data }, { on := 13, ground := Go.Ground.data }, { on := 11, ground := Go.Ground.chain }], guard := none }) rfl (fun K hK => ?_) GoesEach.nil
                  have hnr := near16S (x.l.take k5 ++ [enZ 0]) x.t v4 x2 (elts_of_sr (SR.owns (by rw [← enCells_append]; exact HF.out.1)) (by rw [List.length_append, HK5.out]; rfl)) (fun r hr => by
                rcases List.mem_append.1 hr with q | q
                · exact (HI.out.2.2.2.2 r (List.mem_of_mem_take q)).below HF.out.2
                · rw [List.mem_singleton.1 q]; exact enZ_at _ _)
                  go_simp
                  go_at_call 7
                  refine Calls.mono hnr ?_
                  rintro ev wz ⟨u0, es, rfl, hG, h6⟩
                  have hB := HF.out.2.trans (hG.2.2.mono HF.out.2.size)
                  have HG := Lib.hid (show CUT9 w1 u0 wz from ⟨u0, es, v4, rfl, HF.out.2, hG, h6⟩)
                  try simp only []
                  refine hK.out _ _ (HS9.out.below hB) (fun hHeld2 => ?_)
                  clear hK K hHeld
                  have hHeld := hHeld2
                  clear hHeld2
                  try simp only [Act.put, List.setIfInBounds_toArray, List.set_cons_zero, List.set_cons_succ]
                  clear hB hnr
                  refine goes_take (i := 15) (oi := { dst := some 20, op := Go.Op.assign (Go.Operand.tmp 69), type := 25, pos := "law.go:124", after := #[{ on := 14, ground := Go.Ground.data }, { on := 14, ground := Go.Ground.chain }, { on := 0, ground := Go.Ground.phase }, { on := 1, ground := Go.Ground.phase }, { on := 2, ground := Go.Ground.phase }, { on := 3, ground := Go.Ground.phase }, { on := 4, ground := Go.Ground.phase }, { on := 5, ground := Go.Ground.phase }, { on := 6, ground := Go.Ground.phase }, { on := 7, ground := Go.Ground.phase }, { on := 8, ground := Go.Ground.phase }, { on := 9, ground := Go.Ground.phase }, { on := 10, ground := Go.Ground.phase }, { on := 11, ground := Go.Ground.phase }, { on := 12, ground := Go.Ground.phase }, { on := 13, ground := Go.Ground.phase }, { on := 14, ground := Go.Ground.phase }], guard := none }) (v := ?v15) rfl (by kernel_rfl) (by kernel_rfl) (by kernel_rfl) (fun _ _ _ h => h) (Or.inl ⟨by rfl, ?y15⟩) (by assumption) ?r15
                  case y15 => (intro w hSw; obtain ⟨s1, s2⟩ := hSw; go_simp; try with_reducible rfl)
                  try simp only [Act.put, List.setIfInBounds_toArray, List.set_cons_zero, List.set_cons_succ]
                  refine goes_done (by kernel_rfl) ?_ _
                  go_wp2_with fail
                  all_goals go_meet
                  all_goals exact HG.out
                · rw [if_pos (by kernel_rfl)]
                  refine wp_bs1R (.tmp 64) ?ho16 Try.underlying25 hi hz0 hz1 rfl (by decide) (by decide) #[.int .i64 0, .int .i64 0, .int .i64 0, .int .i64 0, .int .i64 0, .slice none 0 0, .slice none 0 0] ?hx16 rfl ?hr16
                  case ho16 => rfl
                  case hx16 => rfl
                  have hB := (HB.out.alloc HB.out.size (.cells #[.int .i64 0, .int .i64 0, .int .i64 0, .int .i64 0, .int .i64 0, .slice none 0 0, .slice none 0 0] 46))
                  have hLt : SR (v1.alloc (.cells #[.int .i64 0, .int .i64 0, .int .i64 0, .int .i64 0, .int .i64 0, .slice none 0 0, .slice none 0 0] 46)) (.slice (some ⟨v1.heap.size, 0, none⟩) 1 1) 7 1 (enCells [enZ 0]) := SR.lit v1 _ #[.int .i64 0, .int .i64 0, .int .i64 0, .int .i64 0, .int .i64 0, .slice none 0 0, .slice none 0 0] 7 1 (by decide) rfl
                  have hlt19 : v1.heap.size < (v1.alloc (.cells #[.int .i64 0, .int .i64 0, .int .i64 0, .int .i64 0, .int .i64 0, .slice none 0 0, .slice none 0 0] 46)).heap.size := by simp
                  have hO := owns_below HO.out ((Below.refl v1.heap.size v1).alloc (Nat.le_refl _) (.cells #[.int .i64 0, .int .i64 0, .int .i64 0, .int .i64 0, .int .i64 0, .slice none 0 0, .slice none 0 0] 46))
                  have hne : ∀ b, (Value.slice (some ⟨v1.heap.size, 0, none⟩) 1 1).ownBlock = some b → (Value.slice (some ⟨E0, 0, none⟩) 0 0).ownBlock ≠ some b := fun b h1 h2 => by have e1 := Option.some.inj h1; simp only at e1; have := (HO.out.lt _ h2).2; omega
                  refine hK.out _ _ (HS9.out.below hB) (fun hHeld2 => ?_)
                  clear hK K hHeld
                  have hHeld := hHeld2
                  clear hHeld2
                  try simp only [Act.put, List.setIfInBounds_toArray, List.set_cons_zero, List.set_cons_succ]
                  generalize v1.alloc (.cells #[.int .i64 0, .int .i64 0, .int .i64 0, .int .i64 0, .int .i64 0, .slice none 0 0, .slice none 0 0] 46) = v2 at *
                  have HB2 := Lib.hid hB
                  clear HB hB
                  have HB := HB2
                  clear HB2
                  obtain ⟨F0, hF0⟩ : ∃ F0, v1.heap.size = F0 := ⟨_, rfl⟩
                  rw [hF0] at hLt hlt19 hne ⊢
                  have HLt := Lib.hid (And.intro hLt hlt19)
                  clear hLt hlt19
                  have HO2 := Lib.hid hO
                  have HNE := Lib.hid hne
                  clear HO hO hne
                  have HO := HO2
                  clear HO2
                  refine goes_ready (rs := [8]) (by kernel_rfl) (by simp) ?_
                  refine GoesEach.cons (o := { dst := some 63, op := Go.Op.call { callee := Go.Callee.builtin Go.Builtin.append, args := #[Go.Operand.tmp 55, Go.Operand.tmp 62], argTypes := #[25, 25] }, type := 25, pos := "law.go:124", after := #[{ on := 0, ground := Go.Ground.data }, { on := 7, ground := Go.Ground.data }], guard := none }) rfl (fun K hK => ?_) GoesEach.nil
                  refine step_app Try.underlying25 hi hz0 hz1 hz2 rfl (by decide) rfl (.tmp 55) (.tmp 62) rfl w1.heap.size (.slice (some ⟨E0, 0, none⟩) 0 0) 0 [] (by rfl) HO.out (.slice x.a k5 x.q) k5 (enCells (x.l.take k5)) (by rfl) (HSR.out.below HB.out) (enCells_one _) (by unfold maxLen; omega) (by omega) HB.out.size ?_
                  intro x1 v3 hown hgr
                  have hB : Below w1.heap.size w1 v3 := HB.out.grown hgr HB.out.size (fun k e => (HO.out.lt k e).1)
                  have hLt := sr_grown HLt.out.1 hgr (fun b hb => HNE.out b hb)
                  have hlt19 := Nat.lt_of_lt_of_le HLt.out.2 hgr.size
                  refine hK.out _ _ (HS9.out.below hB) (fun hHeld2 => ?_)
                  clear hK K hHeld
                  have hHeld := hHeld2
                  clear hHeld2
                  try simp only [Act.put, List.setIfInBounds_toArray, List.set_cons_zero, List.set_cons_succ]
                  have HA := Lib.hid (show v3.ownsRow w1.heap.size 46 7 x1 k5 (enCells (x.l.take k5)) from by simpa using hown)
                  have HB2 := Lib.hid hB
                  clear HB hB hown
                  have HB := HB2
                  clear HB2
                  have HLt2 := Lib.hid (And.intro hLt hlt19)
                  clear HLt hLt hlt19
                  have HLt := HLt2
                  clear HLt2
                  clear hgr
                  refine goes_ready (rs := [11]) (by kernel_rfl) (by simp) ?_
                  refine GoesEach.cons (o := { dst := some 66, op := Go.Op.call { callee := Go.Callee.builtin Go.Builtin.append, args := #[Go.Operand.tmp 63, Go.Operand.tmp 65], argTypes := #[25, 25] }, type := 25, pos := "law.go:124", after := #[{ on := 8, ground := Go.Ground.data }, { on := 10, ground := Go.Ground.data }, { on := 8, ground := Go.Ground.chain }], guard := none }) rfl (fun K hK => ?_) GoesEach.nil
                  refine step_app Try.underlying25 hi hz0 hz1 hz2 rfl (by decide) rfl (.tmp 63) (.tmp 65) rfl w1.heap.size x1 k5 (enCells (x.l.take k5)) (by rfl) HA.out (.slice (some ⟨F0, 0, none⟩) 1 1) 1 (enCells [enZ 0]) (by rfl) HLt.out.1 (enCells_one _) (by unfold maxLen; omega) (by omega) HB.out.size ?_
                  intro x2 v4 hown hgr
                  have hB : Below w1.heap.size w1 v4 := HB.out.grown hgr HB.out.size (fun k e => (HA.out.lt k e).1)
                  refine hK.out _ _ (HS9.out.below hB) (fun hHeld2 => ?_)
                  clear hK K hHeld
                  have hHeld := hHeld2
                  clear hHeld2
                  try simp only [Act.put, List.setIfInBounds_toArray, List.set_cons_zero, List.set_cons_succ]
                  have HF := Lib.hid (And.intro hown hB)
                  clear hown hgr HB hB
                  refine goes_ready (rs := [14]) (by kernel_rfl) (by simp) ?_
                  refine GoesEach.cons (o := { dst := some 69, op := Go.Op.call { callee := Go.Callee.value (Go.Operand.func 7), args := #[Go.Operand.tmp 66, Go.Operand.tmp 68], argTypes := #[25, 3] }, type := 25, pos := "law.go:124", after := #[{ on := 11, ground := Go.Ground.data }, { on := 13, ground := Go.Ground.data }, { on := 11, ground := Go.Ground.chain }], guard := none }) rfl (fun K hK => ?_) GoesEach.nil
                  have hnr := near16S (x.l.take k5 ++ [enZ 0]) x.t v4 x2 (elts_of_sr (SR.owns (by rw [← enCells_append]; exact HF.out.1)) (by rw [List.length_append, HK5.out]; rfl)) (fun r hr => by
                rcases List.mem_append.1 hr with q | q
                · exact (HI.out.2.2.2.2 r (List.mem_of_mem_take q)).below HF.out.2
                · rw [List.mem_singleton.1 q]; exact enZ_at _ _)
                  go_simp
                  go_at_call 7
                  refine Calls.mono hnr ?_
                  rintro ev wz ⟨u0, es, rfl, hG, h6⟩
                  have hB := HF.out.2.trans (hG.2.2.mono HF.out.2.size)
                  have HG := Lib.hid (show CUT9 w1 u0 wz from ⟨u0, es, v4, rfl, HF.out.2, hG, h6⟩)
                  try simp only []
                  refine hK.out _ _ (HS9.out.below hB) (fun hHeld2 => ?_)
                  clear hK K hHeld
                  have hHeld := hHeld2
                  clear hHeld2
                  try simp only [Act.put, List.setIfInBounds_toArray, List.set_cons_zero, List.set_cons_succ]
                  clear hB hnr
                  refine goes_take (i := 15) (oi := { dst := some 20, op := Go.Op.assign (Go.Operand.tmp 69), type := 25, pos := "law.go:124", after := #[{ on := 14, ground := Go.Ground.data }, { on := 14, ground := Go.Ground.chain }, { on := 0, ground := Go.Ground.phase }, { on := 1, ground := Go.Ground.phase }, { on := 2, ground := Go.Ground.phase }, { on := 3, ground := Go.Ground.phase }, { on := 4, ground := Go.Ground.phase }, { on := 5, ground := Go.Ground.phase }, { on := 6, ground := Go.Ground.phase }, { on := 7, ground := Go.Ground.phase }, { on := 8, ground := Go.Ground.phase }, { on := 9, ground := Go.Ground.phase }, { on := 10, ground := Go.Ground.phase }, { on := 11, ground := Go.Ground.phase }, { on := 12, ground := Go.Ground.phase }, { on := 13, ground := Go.Ground.phase }, { on := 14, ground := Go.Ground.phase }], guard := none }) (v := ?v19) rfl (by kernel_rfl) (by kernel_rfl) (by kernel_rfl) (fun _ _ _ h => h) (Or.inl ⟨by rfl, ?y19⟩) (by assumption) ?r19
                  case y19 => (intro w hSw; obtain ⟨s1, s2⟩ := hSw; go_simp; try with_reducible rfl)
                  try simp only [Act.put, List.setIfInBounds_toArray, List.set_cons_zero, List.set_cons_succ]
                  refine goes_done (by kernel_rfl) ?_ _
                  go_wp2_with fail
                  all_goals go_meet
                  all_goals exact HG.out
              · rw [if_pos (by kernel_rfl)]
                refine wp_bs1R (.tmp 64) ?ho20 Try.underlying25 hi hz0 hz1 rfl (by decide) (by decide) #[.int .i64 0, .int .i64 0, .int .i64 0, .int .i64 0, .int .i64 0, .slice none 0 0, .slice none 0 0] ?hx20 rfl ?hr20
                case ho20 => rfl
                case hx20 => rfl
                have hB := (HB.out.alloc HB.out.size (.cells #[.int .i64 0, .int .i64 0, .int .i64 0, .int .i64 0, .int .i64 0, .slice none 0 0, .slice none 0 0] 46))
                have hLt : SR (v0.alloc (.cells #[.int .i64 0, .int .i64 0, .int .i64 0, .int .i64 0, .int .i64 0, .slice none 0 0, .slice none 0 0] 46)) (.slice (some ⟨v0.heap.size, 0, none⟩) 1 1) 7 1 (enCells [enZ 0]) := SR.lit v0 _ #[.int .i64 0, .int .i64 0, .int .i64 0, .int .i64 0, .int .i64 0, .slice none 0 0, .slice none 0 0] 7 1 (by decide) rfl
                have hlt19 : v0.heap.size < (v0.alloc (.cells #[.int .i64 0, .int .i64 0, .int .i64 0, .int .i64 0, .int .i64 0, .slice none 0 0, .slice none 0 0] 46)).heap.size := by simp
                refine hK.out _ _ (HS9.out.below hB) (fun hHeld2 => ?_)
                clear hK K hHeld
                have hHeld := hHeld2
                clear hHeld2
                try simp only [Act.put, List.setIfInBounds_toArray, List.set_cons_zero, List.set_cons_succ]
                generalize v0.alloc (.cells #[.int .i64 0, .int .i64 0, .int .i64 0, .int .i64 0, .int .i64 0, .slice none 0 0, .slice none 0 0] 46) = v1 at *
                have HB2 := Lib.hid hB
                clear HB hB
                have HB := HB2
                clear HB2
                obtain ⟨F0, hF0⟩ : ∃ F0, v0.heap.size = F0 := ⟨_, rfl⟩
                rw [hF0] at hLt hlt19 ⊢
                have HLt := Lib.hid (And.intro hLt hlt19)
                clear hLt hlt19
                refine goes_ready (rs := [0]) (by kernel_rfl) (by simp) ?_
                refine GoesEach.cons (o := { dst := some 55, op := Go.Op.buildSlice 25 0 #[], type := 25, pos := "law.go:124", after := #[], guard := none }) rfl (fun K hK => ?_) GoesEach.nil
                rw [if_pos (by kernel_rfl)]
                refine wp_bs0R ?ho21 Try.underlying25 hi ?hr21
                case ho21 => rfl
                have hB := (HB.out.alloc HB.out.size (.cells #[] 46))
                have hO : (v1.alloc (.cells #[] 46)).ownsRow w1.heap.size 46 7 (.slice (some ⟨v1.heap.size, 0, none⟩) 0 0) 0 [] := World.ownsRow_lit (base := w1.heap.size) v1 #[] 0 HB.out.size (by decide) rfl
                have hlt0 : F0 < (v1.alloc (.cells #[] 46)).heap.size := by have := HLt.out.2; simp; omega
                have hLt := HLt.out.1.below ((Below.refl v1.heap.size v1).alloc (Nat.le_refl _) (.cells #[] 46))
                have hne : ∀ b, (Value.slice (some ⟨F0, 0, none⟩) 1 1).ownBlock = some b → (Value.slice (some ⟨v1.heap.size, 0, none⟩) 0 0).ownBlock ≠ some b := fun b h1 h2 => by have e1 := Option.some.inj h1; have e2 := Option.some.inj h2; have := HLt.out.2; simp only at e1 e2; omega
                refine hK.out _ _ (HS9.out.below hB) (fun hHeld2 => ?_)
                clear hK K hHeld
                have hHeld := hHeld2
                clear hHeld2
                try simp only [Act.put, List.setIfInBounds_toArray, List.set_cons_zero, List.set_cons_succ]
                generalize v1.alloc (.cells #[] 46) = v2 at *
                obtain ⟨E0, hE0⟩ : ∃ E0, v1.heap.size = E0 := ⟨_, rfl⟩
                rw [hE0] at hO hne ⊢
                have HB2 := Lib.hid hB
                have HO := Lib.hid hO
                clear HB hB hO
                have HB := HB2
                clear HB2
                have HLt2 := Lib.hid (And.intro hLt hlt0)
                have HNE := Lib.hid hne
                clear HLt hLt hne hlt0
                have HLt := HLt2
                clear HLt2
                refine goes_ready (rs := [8]) (by kernel_rfl) (by simp) ?_
                refine GoesEach.cons (o := { dst := some 63, op := Go.Op.call { callee := Go.Callee.builtin Go.Builtin.append, args := #[Go.Operand.tmp 55, Go.Operand.tmp 62], argTypes := #[25, 25] }, type := 25, pos := "law.go:124", after := #[{ on := 0, ground := Go.Ground.data }, { on := 7, ground := Go.Ground.data }], guard := none }) rfl (fun K hK => ?_) GoesEach.nil
                refine step_app Try.underlying25 hi hz0 hz1 hz2 rfl (by decide) rfl (.tmp 55) (.tmp 62) rfl w1.heap.size (.slice (some ⟨E0, 0, none⟩) 0 0) 0 [] (by rfl) HO.out (.slice x.a k5 x.q) k5 (enCells (x.l.take k5)) (by rfl) (HSR.out.below HB.out) (enCells_one _) (by unfold maxLen; omega) (by omega) HB.out.size ?_
                intro x1 v3 hown hgr
                have hB : Below w1.heap.size w1 v3 := HB.out.grown hgr HB.out.size (fun k e => (HO.out.lt k e).1)
                have hLt := sr_grown HLt.out.1 hgr (fun b hb => HNE.out b hb)
                have hlt19 := Nat.lt_of_lt_of_le HLt.out.2 hgr.size
                refine hK.out _ _ (HS9.out.below hB) (fun hHeld2 => ?_)
                clear hK K hHeld
                have hHeld := hHeld2
                clear hHeld2
                try simp only [Act.put, List.setIfInBounds_toArray, List.set_cons_zero, List.set_cons_succ]
                have HA := Lib.hid (show v3.ownsRow w1.heap.size 46 7 x1 k5 (enCells (x.l.take k5)) from by simpa using hown)
                have HB2 := Lib.hid hB
                clear HB hB hown
                have HB := HB2
                clear HB2
                have HLt2 := Lib.hid (And.intro hLt hlt19)
                clear HLt hLt hlt19
                have HLt := HLt2
                clear HLt2
                clear hgr
                refine goes_ready (rs := [11]) (by kernel_rfl) (by simp) ?_
                refine GoesEach.cons (o := { dst := some 66, op := Go.Op.call { callee := Go.Callee.builtin Go.Builtin.append, args := #[Go.Operand.tmp 63, Go.Operand.tmp 65], argTypes := #[25, 25] }, type := 25, pos := "law.go:124", after := #[{ on := 8, ground := Go.Ground.data }, { on := 10, ground := Go.Ground.data }, { on := 8, ground := Go.Ground.chain }], guard := none }) rfl (fun K hK => ?_) GoesEach.nil
                refine step_app Try.underlying25 hi hz0 hz1 hz2 rfl (by decide) rfl (.tmp 63) (.tmp 65) rfl w1.heap.size x1 k5 (enCells (x.l.take k5)) (by rfl) HA.out (.slice (some ⟨F0, 0, none⟩) 1 1) 1 (enCells [enZ 0]) (by rfl) HLt.out.1 (enCells_one _) (by unfold maxLen; omega) (by omega) HB.out.size ?_
                intro x2 v4 hown hgr
                have hB : Below w1.heap.size w1 v4 := HB.out.grown hgr HB.out.size (fun k e => (HA.out.lt k e).1)
                refine hK.out _ _ (HS9.out.below hB) (fun hHeld2 => ?_)
                clear hK K hHeld
                have hHeld := hHeld2
                clear hHeld2
                try simp only [Act.put, List.setIfInBounds_toArray, List.set_cons_zero, List.set_cons_succ]
                have HF := Lib.hid (And.intro hown hB)
                clear hown hgr HB hB
                refine goes_ready (rs := [14]) (by kernel_rfl) (by simp) ?_
                refine GoesEach.cons (o := { dst := some 69, op := Go.Op.call { callee := Go.Callee.value (Go.Operand.func 7), args := #[Go.Operand.tmp 66, Go.Operand.tmp 68], argTypes := #[25, 3] }, type := 25, pos := "law.go:124", after := #[{ on := 11, ground := Go.Ground.data }, { on := 13, ground := Go.Ground.data }, { on := 11, ground := Go.Ground.chain }], guard := none }) rfl (fun K hK => ?_) GoesEach.nil
                have hnr := near16S (x.l.take k5 ++ [enZ 0]) x.t v4 x2 (elts_of_sr (SR.owns (by rw [← enCells_append]; exact HF.out.1)) (by rw [List.length_append, HK5.out]; rfl)) (fun r hr => by
                rcases List.mem_append.1 hr with q | q
                · exact (HI.out.2.2.2.2 r (List.mem_of_mem_take q)).below HF.out.2
                · rw [List.mem_singleton.1 q]; exact enZ_at _ _)
                go_simp
                go_at_call 7
                refine Calls.mono hnr ?_
                rintro ev wz ⟨u0, es, rfl, hG, h6⟩
                have hB := HF.out.2.trans (hG.2.2.mono HF.out.2.size)
                have HG := Lib.hid (show CUT9 w1 u0 wz from ⟨u0, es, v4, rfl, HF.out.2, hG, h6⟩)
                try simp only []
                refine hK.out _ _ (HS9.out.below hB) (fun hHeld2 => ?_)
                clear hK K hHeld
                have hHeld := hHeld2
                clear hHeld2
                try simp only [Act.put, List.setIfInBounds_toArray, List.set_cons_zero, List.set_cons_succ]
                clear hB hnr
                refine goes_take (i := 15) (oi := { dst := some 20, op := Go.Op.assign (Go.Operand.tmp 69), type := 25, pos := "law.go:124", after := #[{ on := 14, ground := Go.Ground.data }, { on := 14, ground := Go.Ground.chain }, { on := 0, ground := Go.Ground.phase }, { on := 1, ground := Go.Ground.phase }, { on := 2, ground := Go.Ground.phase }, { on := 3, ground := Go.Ground.phase }, { on := 4, ground := Go.Ground.phase }, { on := 5, ground := Go.Ground.phase }, { on := 6, ground := Go.Ground.phase }, { on := 7, ground := Go.Ground.phase }, { on := 8, ground := Go.Ground.phase }, { on := 9, ground := Go.Ground.phase }, { on := 10, ground := Go.Ground.phase }, { on := 11, ground := Go.Ground.phase }, { on := 12, ground := Go.Ground.phase }, { on := 13, ground := Go.Ground.phase }, { on := 14, ground := Go.Ground.phase }], guard := none }) (v := ?v24) rfl (by kernel_rfl) (by kernel_rfl) (by kernel_rfl) (fun _ _ _ h => h) (Or.inl ⟨by rfl, ?y24⟩) (by assumption) ?r24
                case y24 => (intro w hSw; obtain ⟨s1, s2⟩ := hSw; go_simp; try with_reducible rfl)
                try simp only [Act.put, List.setIfInBounds_toArray, List.set_cons_zero, List.set_cons_succ]
                refine goes_done (by kernel_rfl) ?_ _
                go_wp2_with fail
                all_goals go_meet
                all_goals exact HG.out
            case rest => as_aux_lemma =>
              obtain ⟨u0, es, nx, rfl, hbn, hG, h6⟩ := hcut
              have hIw := (HI.out.1.below hbn).below hG.2.2
              have hfa := gs_far hG (HI.out.1.below hbn)
              have hrow : ∀ b, u20.ownBlock = some b → nx.heap.size ≤ b := fun b hb => (hG.1.lt b hb).1
              have hue : Elts wc EN.cells 7 u20 es := elts_row hG.1
              obtain ⟨ov, oc, rfl⟩ := hG.form
              obtain ⟨k, hk⟩ : ∃ k, es.length = k := ⟨_, rfl⟩
              rw [hk] at hrow hue h6 ⊢
              have hfar := fun b hb => (HI.out.1.below hbn).new_far (hrow b hb)
              clear HS9 HK5 HSR d0 d1 d2 d3 f0 f1 f2 hbn hG hrow
              by_cases hz : k = 0
              · subst hz
                have HF := Lib.hid (show RS g X w (6 * (j + 1)) wc from ⟨B, T, v, ts, _, ms, hIw, by rw [HN.out.2]; omega⟩)
                clear hIw hfa hue hfar
                go_wp2_with fail
                exact ⟨⟨j + 1, by omega, by go_num, HF⟩, meas_40 hi2⟩
              · obtain ⟨e, he⟩ : ∃ e, es[0]? = some e := ⟨_, List.getElem?_eq_getElem (by omega)⟩
                have hem := List.mem_of_getElem? he
                obtain ⟨-, bu, ou, rfl, hbu, hcu⟩ := hue.at_ he
                obtain ⟨hbg, hbX, hbv⟩ := hfar bu rfl
                have hc0 : wc.cell? ⟨bu, ou, none⟩ = some (.int .i64 e.t) := hcu 0 _ rfl
                have hc1 : wc.cell? ⟨bu, ou + 1, none⟩ = some (.int .i64 e.x) := hcu 1 _ rfl
                have hc2 : wc.cell? ⟨bu, ou + 2, none⟩ = some (.int .i64 e.c.e) := hcu 2 _ rfl
                have hc3 : wc.cell? ⟨bu, ou + 3, none⟩ = some (.int .i64 e.c.b) := hcu 3 _ rfl
                have hc4 : wc.cell? ⟨bu, ou + 4, none⟩ = some (.int .i64 e.c.k) := hcu 4 _ rfl
                have hc5 : wc.cell? ⟨bu, ou + 5, none⟩ = some (.slice e.a1 e.c.M.length e.q1) := hcu 5 _ rfl
                have hc6 : wc.cell? ⟨bu, ou + 6, none⟩ = some (.slice e.a2 e.c.C.length e.q2) := hcu 6 _ rfl
                have hkp : (0 : Int) < (k : Int) := by omega
                have hkp2 : 0 < k := by omega
                have hkz : ((k : Int) == 0) = false := by simp; omega
                obtain ⟨M, hM⟩ : ∃ M, B + ((n : Int) + 1) = M := ⟨_, rfl⟩
                have hM1 : (M != B + (n : Int) + 1) = false := by simp; omega
                have ca := raddG e wc ((hfa e hem).2.at_) (may_short (hfa e hem).1) (hfa e hem).1 g g v ts hIw.log (by rw [HN.out.2]; omega)
                rw [HN.out.2, hM] at ca
                have hMM : (M != M) = false := by simp
                have HW := Lib.hid (And.intro hIw (And.intro (hfa e hem) (And.intro hbu hcu)))
                clear hIw hfa hue hfar hM he hem hcu hk
                go_wp2_with fail
                refine Calls.mono ca ?_
                rintro ev w5 ⟨rfl, b1, p1, b2, p2, v', hL5, hk5⟩
                have hX5 : w5.heap[X]? = some (.cells #[.int .i64 B, .int .i64 T, .slice ma n mc] 27) := (hk5.block X (lt_heap HW.out.1.obj) (Nat.ne_of_gt HW.out.1.gX) (fun e => row_otherE HW.out.1.log.row HW.out.1.obj (by decide) e.symm)).trans HW.out.1.obj
                have hb5 : w5.heap[bu]? = wc.heap[bu]? := hk5.block bu HW.out.2.2.1 hbg (fun e => hbv e.symm)
                have hel5 : Elts w5 EN.cells 7 (.slice ma n mc) ms := elts_move HW.out.1.el hk5.size fun hz b e hb => hk5.block b hb (HW.out.1.mrow hz b e).1 (fun e2 => (HW.out.1.mrow hz b e).2.2 e2.symm)
                have hs5 : MS2 X B (.slice ma n mc) bu ou e w5 := ⟨cell_atD hX5 0 rfl, cell_atD hX5 2 rfl, fun k u hu => (World.cell?_of_block (a := ⟨bu, ou + k, none⟩) hb5).trans (HW.out.2.2.2 k u hu)⟩
                have hleaf : ∀ (wz : World) (x2 : Value), wz.ownsRow w5.heap.size 46 7 x2 (n + 1) (enCells ms ++ enCells [e]) → Below w5.heap.size w5 wz → RS g X w (6 * j + 6) (wz.setCell ⟨X, 2, none⟩ x2) := fun wz x2 ho hb => by
                  have hgl := lt_heap HW.out.1.log.obj
                  refine ⟨B, T, v', ts ++ [⟨e.t, e.x, e.c, b1, p1, b2, p2⟩], x2, ms ++ [e], HW.out.1.turn (hL5.below hb) (hk5.below.trans (hb.mono hL5.le)) (Nat.le_trans hk5.size hb.size) (fun b hbl hg hv => (hb.block b (Nat.lt_of_lt_of_le hbl hk5.size)).trans (hk5.block b hbl hg (fun e => hv e.symm))) hk5.new ((Only.refl _ _).set 2 _) (heap_set_self (below_at hb (lt_heap hX5) hX5) 2 _) (by rw [List.map_append, List.map_append, HW.out.1.key]; rfl) (elts_of_sr (SR.owns (by rw [← enCells_append]; exact ho)) (by rw [List.length_append, HN.out.1]; rfl)) (.inr fun _ b e => ⟨Nat.le_trans hk5.size (ho.lt b e).1, fun e2 => ?_⟩) (fun f hf => ?_), ?_⟩
                  · obtain ⟨c2, hc2⟩ := own_typeN hL5.row e2
                    have := lt_heap hc2
                    have := (ho.lt b e).1
                    omega
                  · rcases List.mem_append.1 hf with q | q
                    · exact .inl q
                    · rw [List.mem_singleton.1 q]; exact .inr HW.out.2.1
                  · rw [List.length_append, HN.out.2]; simp; omega
                have HLEAF := Lib.hid hleaf
                have HS14 := Lib.hid hs5
                have hsr5 := sr_elts hel5
                rw [HN.out.1] at hsr5
                have HSR := Lib.hid hsr5
                have H5 := Lib.hid (And.intro hX5 (lt_heap hX5))
                have f0 := cell_atD hX5 0 (v := .int .i64 B) rfl
                have f2 := cell_atD hX5 2 (v := .slice ma n mc) rfl
                clear hL5 hk5 hb5 hel5 hs5 hleaf hsr5 hX5 ca hc0 hc1 hc2 hc3 hc4 hc5 hc6
                go_upto_region 14 with fail
                have HB := Lib.hid (show Below w5.heap.size w5 w5.drew from below_drew' (Below.refl _ _))
                obtain ⟨v0, hv0⟩ : ∃ v0, v0 = w5.drew := ⟨_, rfl⟩
                refine goes_start (S := MS2 X B (.slice ma n mc) bu ou e) (by kernel_rfl) HS14.out (fun hHeld => ?_)
                refine goes_take (i := 1) (oi := { dst := some 90, op := Go.Op.fieldAddr 27 (Go.Operand.tmp 4) 2, type := 0, pos := "law.go:132", after := #[], guard := none }) (v := ?v25) rfl (by kernel_rfl) (by kernel_rfl) (by kernel_rfl) (fun _ _ _ h => h) (Or.inl ⟨by rfl, ?y25⟩) (by assumption) ?r25
                case y25 => (intro w hSw; obtain ⟨s1, s2, s3⟩ := hSw; go_simp; try with_reducible rfl)
                try simp only [Act.put, List.setIfInBounds_toArray, List.set_cons_zero, List.set_cons_succ]
                refine goes_take (i := 2) (oi := { dst := some 91, op := Go.Op.load 25 (Go.Operand.tmp 90), type := 25, pos := "law.go:132", after := #[{ on := 1, ground := Go.Ground.data }], guard := none }) (v := ?v26) rfl (by kernel_rfl) (by kernel_rfl) (by kernel_rfl) (fun _ _ _ h => h) (Or.inl ⟨by rfl, ?y26⟩) (by assumption) ?r26
                case y26 => (intro w hSw; obtain ⟨s1, s2, s3⟩ := hSw; go_simp; try with_reducible rfl)
                try simp only [Act.put, List.setIfInBounds_toArray, List.set_cons_zero, List.set_cons_succ]
                refine goes_take (i := 4) (oi := { dst := some 93, op := Go.Op.move (Go.Operand.tmp 20), type := 25, pos := "law.go:132", after := #[], guard := none }) (v := ?v27) rfl (by kernel_rfl) (by kernel_rfl) (by kernel_rfl) (fun _ _ _ h => h) (Or.inl ⟨by rfl, ?y27⟩) (by assumption) ?r27
                case y27 => (intro w hSw; obtain ⟨s1, s2, s3⟩ := hSw; go_simp; try with_reducible rfl)
                try simp only [Act.put, List.setIfInBounds_toArray, List.set_cons_zero, List.set_cons_succ]
                refine goes_take (i := 5) (oi := { dst := some 94, op := Go.Op.indexAddr 25 (Go.Operand.tmp 93) (Go.Operand.const (Go.Value.int Go.IntKind.i64 0)), type := 0, pos := "law.go:132", after := #[{ on := 4, ground := Go.Ground.data }], guard := none }) (v := ?v28) rfl (by kernel_rfl) (by kernel_rfl) (by kernel_rfl) (fun _ _ _ h => h) (Or.inl ⟨by rfl, ?y28⟩) (by assumption) ?r28
                case y28 => (intro w hSw; obtain ⟨s1, s2, s3⟩ := hSw; go_simp; try with_reducible rfl)
                try simp only [Act.put, List.setIfInBounds_toArray, List.set_cons_zero, List.set_cons_succ]
                refine goes_take (i := 6) (oi := { dst := some 95, op := Go.Op.load 46 (Go.Operand.tmp 94), type := 46, pos := "law.go:132", after := #[{ on := 5, ground := Go.Ground.data }], guard := none }) (v := ?v29) rfl (by kernel_rfl) (by kernel_rfl) (by kernel_rfl) (fun _ _ _ h => h) (Or.inl ⟨by rfl, ?y29⟩) (by assumption) ?r29
                case y29 => (intro w hSw; obtain ⟨s1, s2, s3⟩ := hSw; (have s30 : w.cell? ⟨bu, ou, none⟩ = some (.int .i64 e.t) := s3 0 _ rfl); (have s31 : w.cell? ⟨bu, ou + 1, none⟩ = some (.int .i64 e.x) := s3 1 _ rfl); (have s32 : w.cell? ⟨bu, ou + 2, none⟩ = some (.int .i64 e.c.e) := s3 2 _ rfl); (have s33 : w.cell? ⟨bu, ou + 3, none⟩ = some (.int .i64 e.c.b) := s3 3 _ rfl); (have s34 : w.cell? ⟨bu, ou + 4, none⟩ = some (.int .i64 e.c.k) := s3 4 _ rfl); (have s35 : w.cell? ⟨bu, ou + 5, none⟩ = some (.slice e.a1 e.c.M.length e.q1) := s3 5 _ rfl); (have s36 : w.cell? ⟨bu, ou + 6, none⟩ = some (.slice e.a2 e.c.C.length e.q2) := s3 6 _ rfl); go_simp; try with_reducible rfl)
                try simp only [Act.put, List.setIfInBounds_toArray, List.set_cons_zero, List.set_cons_succ]
                rw [← hv0] at HB hHeld ⊢
                clear hv0
                refine goes_ready (rs := [0, 7]) (by kernel_rfl) (by simp) ?_
                refine GoesEach.cons (o := { dst := some 89, op := Go.Op.buildSlice 25 0 #[], type := 25, pos := "law.go:132", after := #[], guard := none }) rfl (fun K hK => ?_) (GoesEach.cons (o := { dst := some 96, op := Go.Op.buildSlice 25 1 #[(0, Go.Operand.tmp 95)], type := 25, pos := "law.go:132", after := #[{ on := 6, ground := Go.Ground.data }], guard := none }) rfl (fun K hK => ?_) GoesEach.nil)
                · rw [if_pos (by kernel_rfl)]
                  refine wp_bs0R ?ho30 Try.underlying25 hi ?hr30
                  case ho30 => rfl
                  have hB := (HB.out.alloc HB.out.size (.cells #[] 46))
                  have hO : (v0.alloc (.cells #[] 46)).ownsRow w5.heap.size 46 7 (.slice (some ⟨v0.heap.size, 0, none⟩) 0 0) 0 [] := World.ownsRow_lit (base := w5.heap.size) v0 #[] 0 HB.out.size (by decide) rfl
                  refine hK.out _ _ (HS14.out.below hB) (fun hHeld2 => ?_)
                  clear hK K hHeld
                  have hHeld := hHeld2
                  clear hHeld2
                  try simp only [Act.put, List.setIfInBounds_toArray, List.set_cons_zero, List.set_cons_succ]
                  generalize v0.alloc (.cells #[] 46) = v1 at *
                  obtain ⟨E0, hE0⟩ : ∃ E0, v0.heap.size = E0 := ⟨_, rfl⟩
                  rw [hE0] at hO ⊢
                  have HB2 := Lib.hid hB
                  have HO := Lib.hid hO
                  clear HB hB hO
                  have HB := HB2
                  clear HB2
                  have HE0 := Lib.hid hE0
                  refine goes_ready (rs := [3, 7]) (by kernel_rfl) (by simp) ?_
                  refine GoesEach.cons (o := { dst := some 92, op := Go.Op.call { callee := Go.Callee.builtin Go.Builtin.append, args := #[Go.Operand.tmp 89, Go.Operand.tmp 91], argTypes := #[25, 25] }, type := 25, pos := "law.go:132", after := #[{ on := 0, ground := Go.Ground.data }, { on := 2, ground := Go.Ground.data }], guard := none }) rfl (fun K hK => ?_) (GoesEach.cons (o := { dst := some 96, op := Go.Op.buildSlice 25 1 #[(0, Go.Operand.tmp 95)], type := 25, pos := "law.go:132", after := #[{ on := 6, ground := Go.Ground.data }], guard := none }) rfl (fun K hK => ?_) GoesEach.nil)
                  · refine step_app Try.underlying25 hi hz0 hz1 hz2 rfl (by decide) rfl (.tmp 89) (.tmp 91) rfl w5.heap.size (.slice (some ⟨E0, 0, none⟩) 0 0) 0 [] (by rfl) HO.out (.slice ma n mc) n (enCells ms) (by rfl) (HSR.out.below HB.out) (enCells_one _) (by unfold maxLen; omega) (by omega) HB.out.size ?_
                    intro x1 v2 hown hgr
                    have hB : Below w5.heap.size w5 v2 := HB.out.grown hgr HB.out.size (fun k e => (HO.out.lt k e).1)
                    refine hK.out _ _ (HS14.out.below hB) (fun hHeld2 => ?_)
                    clear hK K hHeld
                    have hHeld := hHeld2
                    clear hHeld2
                    try simp only [Act.put, List.setIfInBounds_toArray, List.set_cons_zero, List.set_cons_succ]
                    have HA := Lib.hid (show v2.ownsRow w5.heap.size 46 7 x1 n (enCells ms) from by simpa using hown)
                    have HB2 := Lib.hid hB
                    clear HB hB hown
                    have HB := HB2
                    clear HB2
                    clear hgr
                    refine goes_ready (rs := [7]) (by kernel_rfl) (by simp) ?_
                    refine GoesEach.cons (o := { dst := some 96, op := Go.Op.buildSlice 25 1 #[(0, Go.Operand.tmp 95)], type := 25, pos := "law.go:132", after := #[{ on := 6, ground := Go.Ground.data }], guard := none }) rfl (fun K hK => ?_) GoesEach.nil
                    rw [if_pos (by kernel_rfl)]
                    refine wp_bs1R (.tmp 95) ?ho32 Try.underlying25 hi hz0 hz1 rfl (by decide) (by decide) #[.int .i64 e.t, .int .i64 e.x, .int .i64 e.c.e, .int .i64 e.c.b, .int .i64 e.c.k, .slice e.a1 e.c.M.length e.q1, .slice e.a2 e.c.C.length e.q2] ?hx32 rfl ?hr32
                    case ho32 => rfl
                    case hx32 => rfl
                    have hB := (HB.out.alloc HB.out.size (.cells #[.int .i64 e.t, .int .i64 e.x, .int .i64 e.c.e, .int .i64 e.c.b, .int .i64 e.c.k, .slice e.a1 e.c.M.length e.q1, .slice e.a2 e.c.C.length e.q2] 46))
                    have hLt : SR (v2.alloc (.cells #[.int .i64 e.t, .int .i64 e.x, .int .i64 e.c.e, .int .i64 e.c.b, .int .i64 e.c.k, .slice e.a1 e.c.M.length e.q1, .slice e.a2 e.c.C.length e.q2] 46)) (.slice (some ⟨v2.heap.size, 0, none⟩) 1 1) 7 1 (enCells [e]) := SR.lit v2 _ #[.int .i64 e.t, .int .i64 e.x, .int .i64 e.c.e, .int .i64 e.c.b, .int .i64 e.c.k, .slice e.a1 e.c.M.length e.q1, .slice e.a2 e.c.C.length e.q2] 7 1 (by decide) rfl
                    have hlt19 : v2.heap.size < (v2.alloc (.cells #[.int .i64 e.t, .int .i64 e.x, .int .i64 e.c.e, .int .i64 e.c.b, .int .i64 e.c.k, .slice e.a1 e.c.M.length e.q1, .slice e.a2 e.c.C.length e.q2] 46)).heap.size := by simp
                    have hA := owns_below HA.out ((Below.refl v2.heap.size v2).alloc (Nat.le_refl _) (.cells #[.int .i64 e.t, .int .i64 e.x, .int .i64 e.c.e, .int .i64 e.c.b, .int .i64 e.c.k, .slice e.a1 e.c.M.length e.q1, .slice e.a2 e.c.C.length e.q2] 46))
                    refine hK.out _ _ (HS14.out.below hB) (fun hHeld2 => ?_)
                    clear hK K hHeld
                    have hHeld := hHeld2
                    clear hHeld2
                    try simp only [Act.put, List.setIfInBounds_toArray, List.set_cons_zero, List.set_cons_succ]
                    generalize v2.alloc (.cells #[.int .i64 e.t, .int .i64 e.x, .int .i64 e.c.e, .int .i64 e.c.b, .int .i64 e.c.k, .slice e.a1 e.c.M.length e.q1, .slice e.a2 e.c.C.length e.q2] 46) = v3 at *
                    have HB2 := Lib.hid hB
                    clear HB hB
                    have HB := HB2
                    clear HB2
                    obtain ⟨F0, hF0⟩ : ∃ F0, v2.heap.size = F0 := ⟨_, rfl⟩
                    rw [hF0] at hLt hlt19 ⊢
                    have HLt := Lib.hid (And.intro hLt hlt19)
                    clear hLt hlt19
                    have HA2 := Lib.hid hA
                    clear HA hA
                    have HA := HA2
                    clear HA2
                    refine goes_ready (rs := [8]) (by kernel_rfl) (by simp) ?_
                    refine GoesEach.cons (o := { dst := some 97, op := Go.Op.call { callee := Go.Callee.builtin Go.Builtin.append, args := #[Go.Operand.tmp 92, Go.Operand.tmp 96], argTypes := #[25, 25] }, type := 25, pos := "law.go:132", after := #[{ on := 3, ground := Go.Ground.data }, { on := 7, ground := Go.Ground.data }, { on := 3, ground := Go.Ground.chain }], guard := none }) rfl (fun K hK => ?_) GoesEach.nil
                    refine step_app Try.underlying25 hi hz0 hz1 hz2 rfl (by decide) rfl (.tmp 92) (.tmp 96) rfl w5.heap.size x1 n (enCells ms) (by rfl) HA.out (.slice (some ⟨F0, 0, none⟩) 1 1) 1 (enCells [e]) (by rfl) HLt.out.1 (enCells_one _) (by unfold maxLen; omega) (by omega) HB.out.size ?_
                    intro x2 v4 hown hgr
                    have hB : Below w5.heap.size w5 v4 := HB.out.grown hgr HB.out.size (fun k e => (HA.out.lt k e).1)
                    refine hK.out _ _ (HS14.out.below hB) (fun hHeld2 => ?_)
                    clear hK K hHeld
                    have hHeld := hHeld2
                    clear hHeld2
                    try simp only [Act.put, List.setIfInBounds_toArray, List.set_cons_zero, List.set_cons_succ]
                    have HF := Lib.hid (And.intro hown hB)
                    clear hown hgr HB hB
                    refine goes_take (i := 9) (oi := { dst := some 98, op := Go.Op.fieldAddr 27 (Go.Operand.tmp 4) 2, type := 0, pos := "law.go:132", after := #[{ on := 0, ground := Go.Ground.phase }, { on := 1, ground := Go.Ground.phase }, { on := 2, ground := Go.Ground.phase }, { on := 3, ground := Go.Ground.phase }, { on := 4, ground := Go.Ground.phase }, { on := 5, ground := Go.Ground.phase }, { on := 6, ground := Go.Ground.phase }, { on := 7, ground := Go.Ground.phase }, { on := 8, ground := Go.Ground.phase }], guard := none }) (v := ?v34) rfl (by kernel_rfl) (by kernel_rfl) (by kernel_rfl) (fun _ _ _ h => h) (Or.inl ⟨by rfl, ?y34⟩) (by assumption) ?r34
                    case y34 => (intro w hSw; obtain ⟨s1, s2, s3⟩ := hSw; go_simp; try with_reducible rfl)
                    try simp only [Act.put, List.setIfInBounds_toArray, List.set_cons_zero, List.set_cons_succ]
                    refine goes_ready (rs := [10]) (by kernel_rfl) (by simp) ?_
                    refine GoesEach.last (o := { dst := none, op := Go.Op.store 25 (Go.Operand.tmp 98) (Go.Operand.tmp 97), type := 0, pos := "law.go:132", after := #[{ on := 9, ground := Go.Ground.data }, { on := 8, ground := Go.Ground.data }, { on := 8, ground := Go.Ground.chain }, { on := 0, ground := Go.Ground.phase }, { on := 1, ground := Go.Ground.phase }, { on := 2, ground := Go.Ground.phase }, { on := 3, ground := Go.Ground.phase }, { on := 4, ground := Go.Ground.phase }, { on := 5, ground := Go.Ground.phase }, { on := 6, ground := Go.Ground.phase }, { on := 7, ground := Go.Ground.phase }, { on := 8, ground := Go.Ground.phase }], guard := none }) rfl (by kernel_rfl) (fun K hK => ?_)
                    obtain ⟨xa, xc, rfl⟩ := owns_form3 HF.out.1
                    have hz := below_at HF.out.2 H5.out.2 H5.out.1
                    have z2 := cell_atD hz 2 (v := .slice ma n mc) rfl
                    have zf : v4.frozen? ⟨X, 2, none⟩ = false := by simp [World.frozen?, hz]
                    have HM2 := Lib.hid (HLEAF.out _ _ HF.out.1 HF.out.2)
                    rw [if_pos (by kernel_rfl)]
                    go_simp
                    refine hK.out _ _ ?_
                    clear hK K z2 zf hz hHeld
                    try simp only [Act.put, List.setIfInBounds_toArray, List.set_cons_zero, List.set_cons_succ]
                    refine goes_done (by kernel_rfl) ?_ _
                    go_wp2_with fail
                    all_goals go_meet
                    all_goals exact HM2
                  · rw [if_pos (by kernel_rfl)]
                    refine wp_bs1R (.tmp 95) ?ho35 Try.underlying25 hi hz0 hz1 rfl (by decide) (by decide) #[.int .i64 e.t, .int .i64 e.x, .int .i64 e.c.e, .int .i64 e.c.b, .int .i64 e.c.k, .slice e.a1 e.c.M.length e.q1, .slice e.a2 e.c.C.length e.q2] ?hx35 rfl ?hr35
                    case ho35 => rfl
                    case hx35 => rfl
                    have hB := (HB.out.alloc HB.out.size (.cells #[.int .i64 e.t, .int .i64 e.x, .int .i64 e.c.e, .int .i64 e.c.b, .int .i64 e.c.k, .slice e.a1 e.c.M.length e.q1, .slice e.a2 e.c.C.length e.q2] 46))
                    have hLt : SR (v1.alloc (.cells #[.int .i64 e.t, .int .i64 e.x, .int .i64 e.c.e, .int .i64 e.c.b, .int .i64 e.c.k, .slice e.a1 e.c.M.length e.q1, .slice e.a2 e.c.C.length e.q2] 46)) (.slice (some ⟨v1.heap.size, 0, none⟩) 1 1) 7 1 (enCells [e]) := SR.lit v1 _ #[.int .i64 e.t, .int .i64 e.x, .int .i64 e.c.e, .int .i64 e.c.b, .int .i64 e.c.k, .slice e.a1 e.c.M.length e.q1, .slice e.a2 e.c.C.length e.q2] 7 1 (by decide) rfl
                    have hlt19 : v1.heap.size < (v1.alloc (.cells #[.int .i64 e.t, .int .i64 e.x, .int .i64 e.c.e, .int .i64 e.c.b, .int .i64 e.c.k, .slice e.a1 e.c.M.length e.q1, .slice e.a2 e.c.C.length e.q2] 46)).heap.size := by simp
                    have hO := owns_below HO.out ((Below.refl v1.heap.size v1).alloc (Nat.le_refl _) (.cells #[.int .i64 e.t, .int .i64 e.x, .int .i64 e.c.e, .int .i64 e.c.b, .int .i64 e.c.k, .slice e.a1 e.c.M.length e.q1, .slice e.a2 e.c.C.length e.q2] 46))
                    have hne : ∀ b, (Value.slice (some ⟨v1.heap.size, 0, none⟩) 1 1).ownBlock = some b → (Value.slice (some ⟨E0, 0, none⟩) 0 0).ownBlock ≠ some b := fun b h1 h2 => by have e1 := Option.some.inj h1; simp only at e1; have := (HO.out.lt _ h2).2; omega
                    refine hK.out _ _ (HS14.out.below hB) (fun hHeld2 => ?_)
                    clear hK K hHeld
                    have hHeld := hHeld2
                    clear hHeld2
                    try simp only [Act.put, List.setIfInBounds_toArray, List.set_cons_zero, List.set_cons_succ]
                    generalize v1.alloc (.cells #[.int .i64 e.t, .int .i64 e.x, .int .i64 e.c.e, .int .i64 e.c.b, .int .i64 e.c.k, .slice e.a1 e.c.M.length e.q1, .slice e.a2 e.c.C.length e.q2] 46) = v2 at *
                    have HB2 := Lib.hid hB
                    clear HB hB
                    have HB := HB2
                    clear HB2
                    obtain ⟨F0, hF0⟩ : ∃ F0, v1.heap.size = F0 := ⟨_, rfl⟩
                    rw [hF0] at hLt hlt19 hne ⊢
                    have HLt := Lib.hid (And.intro hLt hlt19)
                    clear hLt hlt19
                    have HO2 := Lib.hid hO
                    have HNE := Lib.hid hne
                    clear HO hO hne
                    have HO := HO2
                    clear HO2
                    refine goes_ready (rs := [3]) (by kernel_rfl) (by simp) ?_
                    refine GoesEach.cons (o := { dst := some 92, op := Go.Op.call { callee := Go.Callee.builtin Go.Builtin.append, args := #[Go.Operand.tmp 89, Go.Operand.tmp 91], argTypes := #[25, 25] }, type := 25, pos := "law.go:132", after := #[{ on := 0, ground := Go.Ground.data }, { on := 2, ground := Go.Ground.data }], guard := none }) rfl (fun K hK => ?_) GoesEach.nil
                    refine step_app Try.underlying25 hi hz0 hz1 hz2 rfl (by decide) rfl (.tmp 89) (.tmp 91) rfl w5.heap.size (.slice (some ⟨E0, 0, none⟩) 0 0) 0 [] (by rfl) HO.out (.slice ma n mc) n (enCells ms) (by rfl) (HSR.out.below HB.out) (enCells_one _) (by unfold maxLen; omega) (by omega) HB.out.size ?_
                    intro x1 v3 hown hgr
                    have hB : Below w5.heap.size w5 v3 := HB.out.grown hgr HB.out.size (fun k e => (HO.out.lt k e).1)
                    have hLt := sr_grown HLt.out.1 hgr (fun b hb => HNE.out b hb)
                    have hlt19 := Nat.lt_of_lt_of_le HLt.out.2 hgr.size
                    refine hK.out _ _ (HS14.out.below hB) (fun hHeld2 => ?_)
                    clear hK K hHeld
                    have hHeld := hHeld2
                    clear hHeld2
                    try simp only [Act.put, List.setIfInBounds_toArray, List.set_cons_zero, List.set_cons_succ]
                    have HA := Lib.hid (show v3.ownsRow w5.heap.size 46 7 x1 n (enCells ms) from by simpa using hown)
                    have HB2 := Lib.hid hB
                    clear HB hB hown
                    have HB := HB2
                    clear HB2
                    have HLt2 := Lib.hid (And.intro hLt hlt19)
                    clear HLt hLt hlt19
                    have HLt := HLt2
                    clear HLt2
                    clear hgr
                    refine goes_ready (rs := [8]) (by kernel_rfl) (by simp) ?_
                    refine GoesEach.cons (o := { dst := some 97, op := Go.Op.call { callee := Go.Callee.builtin Go.Builtin.append, args := #[Go.Operand.tmp 92, Go.Operand.tmp 96], argTypes := #[25, 25] }, type := 25, pos := "law.go:132", after := #[{ on := 3, ground := Go.Ground.data }, { on := 7, ground := Go.Ground.data }, { on := 3, ground := Go.Ground.chain }], guard := none }) rfl (fun K hK => ?_) GoesEach.nil
                    refine step_app Try.underlying25 hi hz0 hz1 hz2 rfl (by decide) rfl (.tmp 92) (.tmp 96) rfl w5.heap.size x1 n (enCells ms) (by rfl) HA.out (.slice (some ⟨F0, 0, none⟩) 1 1) 1 (enCells [e]) (by rfl) HLt.out.1 (enCells_one _) (by unfold maxLen; omega) (by omega) HB.out.size ?_
                    intro x2 v4 hown hgr
                    have hB : Below w5.heap.size w5 v4 := HB.out.grown hgr HB.out.size (fun k e => (HA.out.lt k e).1)
                    refine hK.out _ _ (HS14.out.below hB) (fun hHeld2 => ?_)
                    clear hK K hHeld
                    have hHeld := hHeld2
                    clear hHeld2
                    try simp only [Act.put, List.setIfInBounds_toArray, List.set_cons_zero, List.set_cons_succ]
                    have HF := Lib.hid (And.intro hown hB)
                    clear hown hgr HB hB
                    refine goes_take (i := 9) (oi := { dst := some 98, op := Go.Op.fieldAddr 27 (Go.Operand.tmp 4) 2, type := 0, pos := "law.go:132", after := #[{ on := 0, ground := Go.Ground.phase }, { on := 1, ground := Go.Ground.phase }, { on := 2, ground := Go.Ground.phase }, { on := 3, ground := Go.Ground.phase }, { on := 4, ground := Go.Ground.phase }, { on := 5, ground := Go.Ground.phase }, { on := 6, ground := Go.Ground.phase }, { on := 7, ground := Go.Ground.phase }, { on := 8, ground := Go.Ground.phase }], guard := none }) (v := ?v38) rfl (by kernel_rfl) (by kernel_rfl) (by kernel_rfl) (fun _ _ _ h => h) (Or.inl ⟨by rfl, ?y38⟩) (by assumption) ?r38
                    case y38 => (intro w hSw; obtain ⟨s1, s2, s3⟩ := hSw; go_simp; try with_reducible rfl)
                    try simp only [Act.put, List.setIfInBounds_toArray, List.set_cons_zero, List.set_cons_succ]
                    refine goes_ready (rs := [10]) (by kernel_rfl) (by simp) ?_
                    refine GoesEach.last (o := { dst := none, op := Go.Op.store 25 (Go.Operand.tmp 98) (Go.Operand.tmp 97), type := 0, pos := "law.go:132", after := #[{ on := 9, ground := Go.Ground.data }, { on := 8, ground := Go.Ground.data }, { on := 8, ground := Go.Ground.chain }, { on := 0, ground := Go.Ground.phase }, { on := 1, ground := Go.Ground.phase }, { on := 2, ground := Go.Ground.phase }, { on := 3, ground := Go.Ground.phase }, { on := 4, ground := Go.Ground.phase }, { on := 5, ground := Go.Ground.phase }, { on := 6, ground := Go.Ground.phase }, { on := 7, ground := Go.Ground.phase }, { on := 8, ground := Go.Ground.phase }], guard := none }) rfl (by kernel_rfl) (fun K hK => ?_)
                    obtain ⟨xa, xc, rfl⟩ := owns_form3 HF.out.1
                    have hz := below_at HF.out.2 H5.out.2 H5.out.1
                    have z2 := cell_atD hz 2 (v := .slice ma n mc) rfl
                    have zf : v4.frozen? ⟨X, 2, none⟩ = false := by simp [World.frozen?, hz]
                    have HM2 := Lib.hid (HLEAF.out _ _ HF.out.1 HF.out.2)
                    rw [if_pos (by kernel_rfl)]
                    go_simp
                    refine hK.out _ _ ?_
                    clear hK K z2 zf hz hHeld
                    try simp only [Act.put, List.setIfInBounds_toArray, List.set_cons_zero, List.set_cons_succ]
                    refine goes_done (by kernel_rfl) ?_ _
                    go_wp2_with fail
                    all_goals go_meet
                    all_goals exact HM2
                · rw [if_pos (by kernel_rfl)]
                  refine wp_bs1R (.tmp 95) ?ho39 Try.underlying25 hi hz0 hz1 rfl (by decide) (by decide) #[.int .i64 e.t, .int .i64 e.x, .int .i64 e.c.e, .int .i64 e.c.b, .int .i64 e.c.k, .slice e.a1 e.c.M.length e.q1, .slice e.a2 e.c.C.length e.q2] ?hx39 rfl ?hr39
                  case ho39 => rfl
                  case hx39 => rfl
                  have hB := (HB.out.alloc HB.out.size (.cells #[.int .i64 e.t, .int .i64 e.x, .int .i64 e.c.e, .int .i64 e.c.b, .int .i64 e.c.k, .slice e.a1 e.c.M.length e.q1, .slice e.a2 e.c.C.length e.q2] 46))
                  have hLt : SR (v0.alloc (.cells #[.int .i64 e.t, .int .i64 e.x, .int .i64 e.c.e, .int .i64 e.c.b, .int .i64 e.c.k, .slice e.a1 e.c.M.length e.q1, .slice e.a2 e.c.C.length e.q2] 46)) (.slice (some ⟨v0.heap.size, 0, none⟩) 1 1) 7 1 (enCells [e]) := SR.lit v0 _ #[.int .i64 e.t, .int .i64 e.x, .int .i64 e.c.e, .int .i64 e.c.b, .int .i64 e.c.k, .slice e.a1 e.c.M.length e.q1, .slice e.a2 e.c.C.length e.q2] 7 1 (by decide) rfl
                  have hlt19 : v0.heap.size < (v0.alloc (.cells #[.int .i64 e.t, .int .i64 e.x, .int .i64 e.c.e, .int .i64 e.c.b, .int .i64 e.c.k, .slice e.a1 e.c.M.length e.q1, .slice e.a2 e.c.C.length e.q2] 46)).heap.size := by simp
                  refine hK.out _ _ (HS14.out.below hB) (fun hHeld2 => ?_)
                  clear hK K hHeld
                  have hHeld := hHeld2
                  clear hHeld2
                  try simp only [Act.put, List.setIfInBounds_toArray, List.set_cons_zero, List.set_cons_succ]
                  generalize v0.alloc (.cells #[.int .i64 e.t, .int .i64 e.x, .int .i64 e.c.e, .int .i64 e.c.b, .int .i64 e.c.k, .slice e.a1 e.c.M.length e.q1, .slice e.a2 e.c.C.length e.q2] 46) = v1 at *
                  have HB2 := Lib.hid hB
                  clear HB hB
                  have HB := HB2
                  clear HB2
                  obtain ⟨F0, hF0⟩ : ∃ F0, v0.heap.size = F0 := ⟨_, rfl⟩
                  rw [hF0] at hLt hlt19 ⊢
                  have HLt := Lib.hid (And.intro hLt hlt19)
                  clear hLt hlt19
                  refine goes_ready (rs := [0]) (by kernel_rfl) (by simp) ?_
                  refine GoesEach.cons (o := { dst := some 89, op := Go.Op.buildSlice 25 0 #[], type := 25, pos := "law.go:132", after := #[], guard := none }) rfl (fun K hK => ?_) GoesEach.nil
                  rw [if_pos (by kernel_rfl)]
                  refine wp_bs0R ?ho40 Try.underlying25 hi ?hr40
                  case ho40 => rfl
                  have hB := (HB.out.alloc HB.out.size (.cells #[] 46))
                  have hO : (v1.alloc (.cells #[] 46)).ownsRow w5.heap.size 46 7 (.slice (some ⟨v1.heap.size, 0, none⟩) 0 0) 0 [] := World.ownsRow_lit (base := w5.heap.size) v1 #[] 0 HB.out.size (by decide) rfl
                  have hlt0 : F0 < (v1.alloc (.cells #[] 46)).heap.size := by have := HLt.out.2; simp; omega
                  have hLt := HLt.out.1.below ((Below.refl v1.heap.size v1).alloc (Nat.le_refl _) (.cells #[] 46))
                  have hne : ∀ b, (Value.slice (some ⟨F0, 0, none⟩) 1 1).ownBlock = some b → (Value.slice (some ⟨v1.heap.size, 0, none⟩) 0 0).ownBlock ≠ some b := fun b h1 h2 => by have e1 := Option.some.inj h1; have e2 := Option.some.inj h2; have := HLt.out.2; simp only at e1 e2; omega
                  refine hK.out _ _ (HS14.out.below hB) (fun hHeld2 => ?_)
                  clear hK K hHeld
                  have hHeld := hHeld2
                  clear hHeld2
                  try simp only [Act.put, List.setIfInBounds_toArray, List.set_cons_zero, List.set_cons_succ]
                  generalize v1.alloc (.cells #[] 46) = v2 at *
                  obtain ⟨E0, hE0⟩ : ∃ E0, v1.heap.size = E0 := ⟨_, rfl⟩
                  rw [hE0] at hO hne ⊢
                  have HB2 := Lib.hid hB
                  have HO := Lib.hid hO
                  clear HB hB hO
                  have HB := HB2
                  clear HB2
                  have HLt2 := Lib.hid (And.intro hLt hlt0)
                  have HNE := Lib.hid hne
                  clear HLt hLt hne hlt0
                  have HLt := HLt2
                  clear HLt2
                  refine goes_ready (rs := [3]) (by kernel_rfl) (by simp) ?_
                  refine GoesEach.cons (o := { dst := some 92, op := Go.Op.call { callee := Go.Callee.builtin Go.Builtin.append, args := #[Go.Operand.tmp 89, Go.Operand.tmp 91], argTypes := #[25, 25] }, type := 25, pos := "law.go:132", after := #[{ on := 0, ground := Go.Ground.data }, { on := 2, ground := Go.Ground.data }], guard := none }) rfl (fun K hK => ?_) GoesEach.nil
                  refine step_app Try.underlying25 hi hz0 hz1 hz2 rfl (by decide) rfl (.tmp 89) (.tmp 91) rfl w5.heap.size (.slice (some ⟨E0, 0, none⟩) 0 0) 0 [] (by rfl) HO.out (.slice ma n mc) n (enCells ms) (by rfl) (HSR.out.below HB.out) (enCells_one _) (by unfold maxLen; omega) (by omega) HB.out.size ?_
                  intro x1 v3 hown hgr
                  have hB : Below w5.heap.size w5 v3 := HB.out.grown hgr HB.out.size (fun k e => (HO.out.lt k e).1)
                  have hLt := sr_grown HLt.out.1 hgr (fun b hb => HNE.out b hb)
                  have hlt19 := Nat.lt_of_lt_of_le HLt.out.2 hgr.size
                  refine hK.out _ _ (HS14.out.below hB) (fun hHeld2 => ?_)
                  clear hK K hHeld
                  have hHeld := hHeld2
                  clear hHeld2
                  try simp only [Act.put, List.setIfInBounds_toArray, List.set_cons_zero, List.set_cons_succ]
                  have HA := Lib.hid (show v3.ownsRow w5.heap.size 46 7 x1 n (enCells ms) from by simpa using hown)
                  have HB2 := Lib.hid hB
                  clear HB hB hown
                  have HB := HB2
                  clear HB2
                  have HLt2 := Lib.hid (And.intro hLt hlt19)
                  clear HLt hLt hlt19
                  have HLt := HLt2
                  clear HLt2
                  clear hgr
                  refine goes_ready (rs := [8]) (by kernel_rfl) (by simp) ?_
                  refine GoesEach.cons (o := { dst := some 97, op := Go.Op.call { callee := Go.Callee.builtin Go.Builtin.append, args := #[Go.Operand.tmp 92, Go.Operand.tmp 96], argTypes := #[25, 25] }, type := 25, pos := "law.go:132", after := #[{ on := 3, ground := Go.Ground.data }, { on := 7, ground := Go.Ground.data }, { on := 3, ground := Go.Ground.chain }], guard := none }) rfl (fun K hK => ?_) GoesEach.nil
                  refine step_app Try.underlying25 hi hz0 hz1 hz2 rfl (by decide) rfl (.tmp 92) (.tmp 96) rfl w5.heap.size x1 n (enCells ms) (by rfl) HA.out (.slice (some ⟨F0, 0, none⟩) 1 1) 1 (enCells [e]) (by rfl) HLt.out.1 (enCells_one _) (by unfold maxLen; omega) (by omega) HB.out.size ?_
                  intro x2 v4 hown hgr
                  have hB : Below w5.heap.size w5 v4 := HB.out.grown hgr HB.out.size (fun k e => (HA.out.lt k e).1)
                  refine hK.out _ _ (HS14.out.below hB) (fun hHeld2 => ?_)
                  clear hK K hHeld
                  have hHeld := hHeld2
                  clear hHeld2
                  try simp only [Act.put, List.setIfInBounds_toArray, List.set_cons_zero, List.set_cons_succ]
                  have HF := Lib.hid (And.intro hown hB)
                  clear hown hgr HB hB
                  refine goes_take (i := 9) (oi := { dst := some 98, op := Go.Op.fieldAddr 27 (Go.Operand.tmp 4) 2, type := 0, pos := "law.go:132", after := #[{ on := 0, ground := Go.Ground.phase }, { on := 1, ground := Go.Ground.phase }, { on := 2, ground := Go.Ground.phase }, { on := 3, ground := Go.Ground.phase }, { on := 4, ground := Go.Ground.phase }, { on := 5, ground := Go.Ground.phase }, { on := 6, ground := Go.Ground.phase }, { on := 7, ground := Go.Ground.phase }, { on := 8, ground := Go.Ground.phase }], guard := none }) (v := ?v43) rfl (by kernel_rfl) (by kernel_rfl) (by kernel_rfl) (fun _ _ _ h => h) (Or.inl ⟨by rfl, ?y43⟩) (by assumption) ?r43
                  case y43 => (intro w hSw; obtain ⟨s1, s2, s3⟩ := hSw; go_simp; try with_reducible rfl)
                  try simp only [Act.put, List.setIfInBounds_toArray, List.set_cons_zero, List.set_cons_succ]
                  refine goes_ready (rs := [10]) (by kernel_rfl) (by simp) ?_
                  refine GoesEach.last (o := { dst := none, op := Go.Op.store 25 (Go.Operand.tmp 98) (Go.Operand.tmp 97), type := 0, pos := "law.go:132", after := #[{ on := 9, ground := Go.Ground.data }, { on := 8, ground := Go.Ground.data }, { on := 8, ground := Go.Ground.chain }, { on := 0, ground := Go.Ground.phase }, { on := 1, ground := Go.Ground.phase }, { on := 2, ground := Go.Ground.phase }, { on := 3, ground := Go.Ground.phase }, { on := 4, ground := Go.Ground.phase }, { on := 5, ground := Go.Ground.phase }, { on := 6, ground := Go.Ground.phase }, { on := 7, ground := Go.Ground.phase }, { on := 8, ground := Go.Ground.phase }], guard := none }) rfl (by kernel_rfl) (fun K hK => ?_)
                  obtain ⟨xa, xc, rfl⟩ := owns_form3 HF.out.1
                  have hz := below_at HF.out.2 H5.out.2 H5.out.1
                  have z2 := cell_atD hz 2 (v := .slice ma n mc) rfl
                  have zf : v4.frozen? ⟨X, 2, none⟩ = false := by simp [World.frozen?, hz]
                  have HM2 := Lib.hid (HLEAF.out _ _ HF.out.1 HF.out.2)
                  rw [if_pos (by kernel_rfl)]
                  go_simp
                  refine hK.out _ _ ?_
                  clear hK K z2 zf hz hHeld
                  try simp only [Act.put, List.setIfInBounds_toArray, List.set_cons_zero, List.set_cons_succ]
                  refine goes_done (by kernel_rfl) ?_ _
                  go_wp2_with fail
                  all_goals go_meet
                  all_goals exact HM2
      case rest => as_aux_lemma =>
        obtain ⟨B', T', v', ts', mv', ms', hI, hl⟩ := hcut.out
        clear d0 d1 d2 d3 f0 f1 f2 hcut
        obtain ⟨ma', mc', rfl, hmn', hmc', -⟩ := hI.el
        obtain ⟨n', hn'⟩ : ∃ n', ms'.length = n' := ⟨_, rfl⟩
        have htn' : ts'.length = n' := by rw [← hn']; exact hI.len.symm
        have hB' := hI.log.bd
        unfold maxLen at hmc'
        have hkey := hI.key
        rw [htn'] at hl
        rw [hn'] at hI hmn'
        have c1 := rbaseG wc g g v' ts' hI.log
        have c2 := fun q => rlastG (wc.drewN q) g g v' ts' (hI.log.drewN q) (by omega)
        rw [htn'] at c2
        obtain ⟨L, hL⟩ : ∃ L, B' + (n' : Int) = L := ⟨_, rfl⟩
        rw [hL] at c2
        obtain ⟨S, hS⟩ : ∃ S, termG B' T' ts' L = S := ⟨_, rfl⟩
        rw [hS] at c2
        obtain ⟨S2, hS2⟩ : ∃ S2, termG B' T' ts' P = S2 := ⟨_, rfl⟩
        have hLb : 0 ≤ L ∧ L ≤ 2000 := by omega
        have HJ := Lib.hid (And.intro hI (And.intro hn' (And.intro htn' (And.intro hL (And.intro hS (And.intro hS2 (And.intro hkey hl)))))))
        clear hI hn' htn' hL hS hS2 hkey
        go_wp2_with fail
        refine Calls.mono c1 ?_
        rintro ev w5 ⟨rfl, q, rfl⟩
        go_wp2_with fail
        refine Calls.mono (c2 q) ?_
        rintro ev w5 ⟨rfl, q2, rfl⟩
        rw [drewN_moreR]
        clear c1 c2
        have hI6 := HJ.out.1.below (below_drewN' (Below.refl _ _) (q + q2))
        generalize wc.drewN (q + q2) = w6 at *
        obtain ⟨N, hN⟩ : ∃ N, w6.heap.size = N := ⟨_, rfl⟩
        have HNN := Lib.hid hN
        have cM1 : ∀ w', N ≤ w'.heap.size ∧ Below N w6 w' → Calls Try.prog 8 #[.agg #[.int .i64 B', .int .i64 T', .slice ma' n' mc'], .int .i64 L] w' fun e w'' => e = .returned (.int .i64 S) ∧ Stays N w' w'' := fun w' h => by
          have c := mat B' T' L w' _ ms' (hI6.el.below (by rw [hN]; exact h.2)) hB' (by rw [HJ.out.2.1]; omega) (by omega)
          rw [term_key HJ.out.2.2.2.2.2.2.1, HJ.out.2.2.2.2.1] at c
          exact c.mono fun _ _ ⟨e1, e2⟩ => ⟨e1, stays_of h.1 e2⟩
        have cM2 : ∀ w', N ≤ w'.heap.size ∧ Below N w6 w' → Calls Try.prog 8 #[.agg #[.int .i64 B', .int .i64 T', .slice ma' n' mc'], .int .i64 P] w' fun e w'' => e = .returned (.int .i64 S2) ∧ Stays N w' w'' := fun w' h => by
          have c := mat B' T' P w' _ ms' (hI6.el.below (by rw [hN]; exact h.2)) hB' (by rw [HJ.out.2.1]; omega) (by omega)
          rw [term_key HJ.out.2.2.2.2.2.2.1, HJ.out.2.2.2.2.2.1] at c
          exact c.mono fun _ _ ⟨e1, e2⟩ => ⟨e1, stays_of h.1 e2⟩
        have cL : ∀ w', N ≤ w'.heap.size ∧ Below N w6 w' → Calls Try.prog 18 #[.pointer (some ⟨g, 0, none⟩)] w' fun e w'' => e = .returned (.int .i64 L) ∧ Stays N w' w'' := fun w' h => by
          have c := rlenG w' g g v' ts' (hI6.log.below (by rw [hN]; exact h.2)) (by rw [HJ.out.2.2.1]; omega)
          rw [HJ.out.2.2.1, HJ.out.2.2.2.1] at c
          exact c.mono fun _ _ ⟨e1, q, e2⟩ => ⟨e1, stays_of h.1 (by rw [e2]; exact below_drewN' (Below.refl _ _) q)⟩
        have cT : ∀ w', N ≤ w'.heap.size ∧ Below N w6 w' → Calls Try.prog 19 #[.pointer (some ⟨g, 0, none⟩), .int .i64 P] w' fun e w'' => e = .returned (.int .i64 S2) ∧ Stays N w' w'' := fun w' h => by
          have c := rtermG P w' g g v' ts' (hI6.log.below (by rw [hN]; exact h.2)) (by rw [HJ.out.2.2.1]; omega) (by omega) (by omega)
          rw [HJ.out.2.2.2.2.2.1] at c
          exact c.mono fun _ _ ⟨e1, q, e2⟩ => ⟨e1, stays_of h.1 (by rw [e2]; exact below_drewN' (Below.refl _ _) q)⟩
        have hXN : X < N := by have := lt_heap hI6.obj; omega
        have f0 := cell_atD hI6.obj 0 (v := .int .i64 B') rfl
        have f1 := cell_atD hI6.obj 1 (v := .int .i64 T') rfl
        have f2 := cell_atD hI6.obj 2 (v := .slice ma' n' mc') rfl
        have wL : IntKind.i64.wrap (B' + (n' : Int)) = L := by rw [IntKind.wrap_i64]; have := HJ.out.2.2.2.1; omega
        have b1 : (B' != B') = false := by simp
        have b2 : (T' != T') = false := by simp
        have b3 : (L != L) = false := by simp
        have b4 : (S != S) = false := by simp
        have b5 : (S2 != S2) = false := by simp
        have HI6 := Lib.hid hI6
        clear hI6 hN
        go_upto_region 50 with fail
        go_region_held3 (fun w' => N ≤ w'.heap.size ∧ Below N w6 w' ∧ ∀ b o, b < N → w'.cell? ⟨b, o, none⟩ = w6.cell? ⟨b, o, none⟩) (first | assumption | exact keeps_start HNN.out | exact keeps_next (by assumption) (by assumption)) (first | (go_at_call 8; (first | (with_reducible refine Calls.mono (cM1 _ ?hk) ?_) | (with_reducible refine Calls.mono (cM2 _ ?hk) ?_)); (case hk => exact keepsP (by assumption)); rintro e wz ⟨rfl, hz⟩) | (go_at_call 18; (with_reducible refine Calls.mono (cL _ ?hk) ?_); (case hk => exact keepsP (by assumption)); rintro e wz ⟨rfl, hz⟩) | (go_at_call 19; (with_reducible refine Calls.mono (cT _ ?hk) ?_); (case hk => exact keepsP (by assumption)); rintro e wz ⟨rfl, hz⟩))
        have hkz := keepsP (show N ≤ wz.heap.size ∧ Below N w6 wz ∧ ∀ b o, b < N → wz.cell? ⟨b, o, none⟩ = w6.cell? ⟨b, o, none⟩ by first | assumption | exact keeps_next (by assumption) (by assumption))
        have HF := Lib.hid (show RS g X w (6 * (j + 1)) wz from ⟨B', T', v', ts', _, ms', HI6.out.below (by rw [HNN.out]; exact hkz.2), by rw [HJ.out.2.2.1]; have := HJ.out.2.2.2.2.2.2.2; omega⟩)
        clear cM1 cM2 cL cT hkz
        go_wp2_with fail
        go_roundw
        case rel => exact ⟨j + 1, by omega, by go_num, HF⟩
        case measure => exact meas_40 hi2
    · as_aux_lemma =>
        have hout : ¬ ((j : Int) < (len : Int) ∧ (j : Int) < 40) := fun h => hin ⟨by omega, h.2⟩
        obtain ⟨B, T, v, ts, mv, ms, hI, hl⟩ := HR.out
        obtain ⟨ma, mc, rfl, hmn, hmc, -⟩ := hI.el
        obtain ⟨n, hn⟩ : ∃ n, ms.length = n := ⟨_, rfl⟩
        have htn : ts.length = n := by rw [← hn]; exact hI.len.symm
        have hB := hI.log.bd
        unfold maxLen at hmc
        rw [htn] at hl
        rw [hn] at hI hmn
        have HN := Lib.hid (And.intro hn htn)
        clear hn htn hin HR
        go_upto_region 3 with fail
        go_cut [36] (fun s wx => s = .bool false ∧ wx = wr)
        case first =>
          by_cases hj1 : (j : Int) < (len : Int)
          · have hj2 : ¬ ((j : Int) < 40) := fun h => hout ⟨hj1, h⟩
            have hj3 : decide ((j : Int) < 40) = false := by simpa using hj2
            clear hout
            go_wp2_with fail
            go_meet
            exact ⟨by first | rfl | simp [hj2], rfl⟩
          · clear hout
            go_wp2_with fail
            go_meet
            exact ⟨rfl, rfl⟩
        case rest =>
          obtain ⟨hs36, hwr⟩ := hcut
          subst hs36
          rw [hwr]
          clear hwr
          go_wp2_with fail
          obtain ⟨N, hN⟩ : ∃ N, wr.heap.size = N := ⟨_, rfl⟩
          have HNN := Lib.hid hN
          have cW : ∀ w', N ≤ w'.heap.size ∧ Below N wr w' → Calls Try.prog 20 #[] w' fun e w'' => e = .returned (.bool true) ∧ Stays N w' w'' := fun w' h => (awake16 w').mono fun _ _ ⟨e1, e2⟩ => ⟨e1, stays_of h.1 e2⟩
          have cF : ∀ w', N ≤ w'.heap.size ∧ Below N wr w' → Calls Try.prog 13 #[.pointer (some ⟨g, 0, none⟩), .int .i64 (B + 1), .int .i64 300] w' fun e w'' => ∃ u fs, e = .returned u ∧ RowX w'' u fs ms ∧ Stays N w' w'' := fun w' h => by
            have c := rfromG (B + 1) 300 (by omega) (by omega) w' g g v ts (hI.log.below (by rw [hN]; exact h.2)) (by rw [HN.out.2]; omega) hI.shorts
            refine c.mono ?_
            rintro e w'' ⟨u, fs, rfl, h1, h2, h3⟩
            refine ⟨u, fs, rfl, ⟨_, h1, ?_⟩, stays_of h.1 h3⟩
            rw [h2, ← hI.key, from_all (by rw [HN.out.2]; omega)]
          have cA : ∀ w' u fs, RowX w' u fs ms → N ≤ w'.heap.size ∧ Below N wr w' → Calls Try.prog 21 #[u, .slice ma n mc] w' fun e w'' => e = .returned (.bool true) ∧ Stays N w' w'' := fun w' u fs hR h => by
            obtain ⟨M, hR1, hR2⟩ := hR
            have hb : Below wr.heap.size wr w' := by rw [hN]; exact h.2
            have c := rall13 fs ms u (.slice ma n mc) w' (elts_row hR1.1) (hI.el.below hb) (fun e he => CFO.at_ (hR1.2 e he)) (fun e he => ((hI.may e he).2.at_).below hb)
            rw [allE_keys hR2] at c
            exact c.mono fun _ _ ⟨e1, e2⟩ => ⟨e1, stays_of h.1 e2⟩
          have hXN : X < N := by have := lt_heap hI.obj; omega
          have f0 := cell_atD hI.obj 0 (v := .int .i64 B) rfl
          have f1 := cell_atD hI.obj 1 (v := .int .i64 T) rfl
          have f2 := cell_atD hI.obj 2 (v := .slice ma n mc) rfl
          have wB : IntKind.i64.wrap (B + 1) = B + 1 := by rw [IntKind.wrap_i64]; omega
          have HI6 := Lib.hid (And.intro hI.low hI.gl)
          clear hI hN
          go_region_held3 (fun w' => N ≤ w'.heap.size ∧ Below N wr w' ∧ ∀ b o, b < N → w'.cell? ⟨b, o, none⟩ = wr.cell? ⟨b, o, none⟩) (first | assumption | exact keeps_start HNN.out | exact keeps_next (by assumption) (by assumption)) (first | (go_at_call 20; (with_reducible refine Calls.mono (cW _ ?hk) ?_); (case hk => exact keepsP (by assumption)); rintro e wz ⟨rfl, hz⟩) | (go_at_call 13; (with_reducible refine Calls.mono (cF _ ?hk) ?_); (case hk => exact keepsP (by assumption)); rintro e wz ⟨uu, fs, rfl, hRX, hz⟩) | (go_at_call 21; (with_reducible refine Calls.mono (cA _ _ _ (by assumption) ?hk) ?_); (case hk => exact keepsP (by assumption)); rintro e wz ⟨rfl, hz⟩))
          have hkz := keepsP (show N ≤ wz.heap.size ∧ Below N wr wz ∧ ∀ b o, b < N → wz.cell? ⟨b, o, none⟩ = wr.cell? ⟨b, o, none⟩ by first | assumption | exact keeps_next (by assumption) (by assumption))
          have HZ := Lib.hid (HI6.out.1.trans (hkz.2.mono (by rw [← HNN.out]; exact HI6.out.1.size)))
          clear hkz cW cF cA
          go_wp2_with fail
          go_ret
          exact ⟨ret_bool rfl, HZ.out⟩
end Go.Proofs.Ytkdmnhmlkcejfaa
