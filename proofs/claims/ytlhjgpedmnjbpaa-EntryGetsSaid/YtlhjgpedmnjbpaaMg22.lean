/-
  Several texts, laid together.
-/
import Derived.Test.YtlhjgpedmnjbpaaMg21
/-
  EntryEqual's law.
-/

namespace Go.Proofs.Ytlhjgpedmnjbpaa
open Go.RowKit
set_option linter.unusedVariables false
set_option linter.unusedSimpArgs false

def confShI : Sh := .two (.int .i64) (.two (.int .i64) (.two (.int .i64) (.two (.slice (.int .i64)) (.two (.slice (.int .i64)) .unit))))
def entShI : Sh := .two (.int .i64) (.two (.two (.int .i64) (.two confShI .unit)) .unit)
theorem fits_intsI {w : World} {a : Option Addr} {len cap : Nat} (h : Fits w (.slice (.int .i64)) [.slice a len cap]) : ∃ l : List Int, l.length = len ∧ SR w (.slice a len cap) 1 l.length (nCells l) := by
  obtain ⟨h1, h2, h3⟩ := h.slice
  rcases h3 with h0 | ⟨b, off, rfl, hb, he⟩
  · subst h0
    exact ⟨[], rfl, a, cap, rfl, h1, h2, rfl, .inl rfl⟩
  · refine ⟨(List.range len).map fun i => match w.cell? ⟨b, off + i, none⟩ with | some (.int _ z) => z | _ => 0, by simp, ?_⟩
    refine ⟨_, cap, by simp, by simpa using h1, h2, by simp [nCells], .inr ⟨b, off, rfl, hb, fun j u hj => ?_⟩⟩
    have hjl : j < len := by
      have := (List.getElem?_eq_some_iff.1 hj).1
      simpa [nCells] using this
    obtain ⟨ys, hl, hc, z, rfl, -⟩ := he j hjl
    have hcell : w.cell? ⟨b, off + j, none⟩ = some (.int .i64 z) := by simpa [Sh.size] using hc 0 _ rfl
    rw [hcell, ← hj]
    simp [nCells, hjl, hcell]
theorem fits_enI {w : World} {ys : List Value} (h : Fits w entShI ys) : ∃ r : EN, ys = r.cells ∧ r.at_ w := by
  obtain ⟨_, _, rfl, ⟨t, rfl, -⟩, _, _, rfl, h, rfl⟩ := h
  obtain ⟨x, y, rfl, ⟨z, rfl, -⟩, x1, y1, rfl, h1, rfl⟩ := h
  obtain ⟨_, _, rfl, ⟨e, rfl, -⟩, _, _, rfl, ⟨b, rfl, -⟩, _, _, rfl, ⟨k, rfl, -⟩, x3, _, rfl, h3, x4, _, rfl, h4, rfl⟩ := h1
  obtain ⟨ma, ml, mc, rfl, -⟩ := id h3
  obtain ⟨ca, cl, cc, rfl, -⟩ := id h4
  obtain ⟨M, rfl, hM⟩ := fits_intsI h3
  obtain ⟨C, rfl, hC⟩ := fits_intsI h4
  exact ⟨⟨t, z, ⟨e, b, k, M, C⟩, ma, mc, ca, cc⟩, rfl, hM, hC⟩
theorem elts_rowI {w : World} {N : Nat} {v : Value} {es : List EN} (h : w.ownsRow N 52 7 v es.length (enCells es)) : Elts w EN.cells 7 v es := by
  obtain ⟨a, cap, rfl, h1, h2, h3, h4⟩ := SR.owns h
  refine ⟨a, cap, rfl, h1, h2, h4.imp id ?_⟩
  rintro ⟨b, off, rfl, hb, hc⟩
  refine ⟨b, off, rfl, hb, fun j e hj k u hk => ?_⟩
  have hk7 : k < 7 := by
    have := (List.getElem?_eq_some_iff.1 hk).1
    simpa [EN.cells] using this
  have := hc (j * 7 + k) u (enCells_get es j e hj k u hk hk7)
  rwa [← Nat.add_assoc] at this
theorem elts_take {α : Type} {w : World} {c : α → List Value} {sz : Nat} {a : Option Addr} {len cap : Nat} {rs : List α} (h : Elts w c sz (.slice a len cap) rs) (k : Nat) (hk : k ≤ rs.length) : Elts w c sz (.slice a k cap) (rs.take k) := by
  obtain ⟨a', cap', he, h1, h2, h3⟩ := h
  injection he with e1 e2 e3
  subst e1 e2 e3
  have hl : (rs.take k).length = k := by rw [List.length_take]; omega
  refine ⟨a, cap, by rw [hl], by omega, h2, ?_⟩
  rcases h3 with h3 | ⟨b, off, rfl, hb, hc⟩
  · left; omega
  · right
    refine ⟨b, off, rfl, hb, fun j x hj u v hv => hc j x ?_ u v hv⟩
    rw [List.getElem?_take] at hj
    split at hj
    · exact hj
    · cases hj
/-- entries that are read, wherever their lists lie -/
structure Ens (w : World) (v : Value) (es : List EN) : Prop where
  el : Elts w EN.cells 7 v es
  at_ : ∀ e ∈ es, e.at_ w
  sh : ∀ e ∈ es, short e.c
  six : es.length ≤ 6
theorem Ens.below {w w' : World} {v : Value} {es : List EN} (h : Ens w v es) (hb : Below w.heap.size w w') : Ens w' v es := ⟨h.el.below hb, fun e he => CFat.below (h.at_ e he) hb, h.sh, h.six⟩
theorem GX.ens {Y : Nat} {w wr : World} {v : Value} {es : List EN} (h : GX Y w wr v es) (h6 : es.length ≤ 6) : Ens wr v es := ⟨elts_rowI h.1, fun e he => (h.2.1 e he).2.at_, fun e he => (h.2.1 e he).1, h6⟩
theorem GX.only {Y : Nat} {w wr w' : World} {v : Value} {es : List EN} (h : GX Y w wr v es) (h6 : es.length ≤ 6) (ho : Only Y wr w') : Ens w' v es :=
  ⟨elts_rowI (own_moveN h.1 fun b q => ho.block b (by obtain ⟨c, hc⟩ := own_typeN h.1 q; exact lt_heap hc) (fun e => h.2.2.2.1 (by rw [q, e]))),
   fun e he => ((h.2.1 e he).2.move (Q := fun _ => True) ho.size fun b hl hp => ⟨ho.block b hl hp.2, trivial⟩).at_, fun e he => (h.2.1 e he).1, h6⟩
theorem gx_start (w : World) : GX (w.heap.size + 1) w ((w.alloc (.cells #[] 52)).alloc (.cells #[] 52)) (.slice (some ⟨w.heap.size, 0, none⟩) 0 0) [] ∧ GX w.heap.size w ((w.alloc (.cells #[] 52)).alloc (.cells #[] 52)) (.slice (some ⟨w.heap.size + 1, 0, none⟩) 0 0) [] := by
  obtain ⟨hx, hy⟩ := two_blocks w (.cells #[] 52) (.cells #[] 52)
  have hb : Below w.heap.size w ((w.alloc (.cells #[] 52)).alloc (.cells #[] 52)) := ((Below.refl _ _).alloc (Nat.le_refl _) _).alloc (by simp) _
  refine ⟨⟨⟨rfl, .inr ⟨w.heap.size, 0, #[], rfl, Nat.le_refl _, hx, Nat.le_refl _, by decide, rfl, rfl⟩⟩, by simp, hb, by simp [Value.ownBlock], by simp⟩, ⟨⟨rfl, .inr ⟨w.heap.size + 1, 0, #[], rfl, by omega, hy, Nat.le_refl _, by decide, rfl, rfl⟩⟩, by simp, hb, by simp [Value.ownBlock], by simp; omega⟩⟩
theorem GX.empty_keep {Y : Nat} {wr w' : World} {v : Value} {o : Obj} {c : Array Value} {t : TypeId} (h : wr.heap[Y]? = some (.cells c t)) (hv : v.ownBlock ≠ some Y) (hg : (wr.alloc o).grownBy w' v.ownBlock) : w'.heap[Y]? = some (.cells c t) :=
  (hg.block Y (by have := lt_heap h; simp; omega) (fun e => hv e.symm)).trans ((Below.heap_alloc _ _ _ (lt_heap h)).trans h)
/-- the second row's growth leaves the rest -/
def Second (Y : Nat) (WL wr : World) (v : Value) : Prop := Only Y WL wr ∧ (v.ownBlock = some Y ∨ ∀ b, v.ownBlock = some b → WL.heap.size ≤ b)
theorem Second.keep {Y : Nat} {WL wr w' : World} {v : Value} (h : Second Y WL wr v) (hb : Below wr.heap.size wr w') : Second Y WL w' v := ⟨h.1.trans (onlyBe hb), h.2⟩
theorem Second.new {Y : Nat} {WL wr w' : World} {v v' : Value} {o : Obj} (h : Second Y WL wr v) (hg : (wr.alloc o).grownBy w' v.ownBlock) (hn : v'.ownBlock = v.ownBlock ∨ v'.ownBlock = some (wr.heap.size + 1)) : Second Y WL w' v' := by
  have hsz := h.1.size
  refine ⟨⟨hg.os.trans h.1.os, hg.tape.trans h.1.tape, hg.output.trans h.1.output, Nat.le_trans hsz (Nat.le_trans (by simp) hg.size), fun k hk hne => ?_⟩, ?_⟩
  · refine (hg.block k (by simp; omega) fun e => ?_).trans ((Below.heap_alloc _ _ _ (by omega)).trans (h.1.block k hk hne))
    rcases h.2 with q | q
    · rw [q] at e
      cases e
      exact hne rfl
    · have := q k e.symm
      omega
  · rcases hn with hn | hn
    · rw [hn]; exact h.2
    · right
      intro b e
      rw [hn] at e
      cases e
      omega
set_option maxHeartbeats 12800000 in
set_option maxRecDepth 100000 in
theorem entryequal_law (a0 : Option Addr) (len0 cap0 : Nat) (a1 : Option Addr) (len1 cap1 : Nat) (cut : Bool) (w : World) (hf0 : Fits w (.slice entShI) [.slice a0 len0 cap0]) (hf1 : Fits w (.slice entShI) [.slice a1 len1 cap1]) :
    Calls Try.prog 5 #[.slice a0 len0 cap0, .slice a1 len1 cap1, .bool cut] w fun e w' => e = .returned (.bool true) ∧ Below w.heap.size w w' := by
  obtain ⟨i0, hi, hz0, hz1, hz2⟩ := info_parts einfoN
  obtain ⟨rs0, hlr0, hel0, hrs0⟩ := fits_rows (c := EN.cells) (good := fun r => r.at_ w) (fun ys h => fits_enI h) hf0
  obtain ⟨rs1, hlr1, hel1, hrs1⟩ := fits_rows (c := EN.cells) (good := fun r => r.at_ w) (fun ys h => fits_enI h) hf1
  have hlm0 : len0 ≤ 9223372036854775807 := by have := hf0.slice; unfold maxLen at this; omega
  have hlm1 : len1 ≤ 9223372036854775807 := by have := hf1.slice; unfold maxLen at this; omega
  have HV0 := Lib.hid (And.intro hel0 hrs0)
  have HV1 := Lib.hid (And.intro hel1 hrs1)
  have HL0 := Lib.hid hlr0
  have HL1 := Lib.hid hlr1
  obtain ⟨g0, g1⟩ := gx_start w
  have HG0 := Lib.hid g0
  have HY0 := Lib.hid (two_blocks w (.cells #[] 52) (.cells #[] 52)).2
  clear hf0 hf1 hel0 hrs0 hel1 hrs1 hlr0 hlr1 g0 g1
  go_enter Try.func5, Try.ntmps5
  go_upto_block 0 with fail
  generalize (w.alloc (.cells #[] 52)).alloc (.cells #[] 52) = W1 at *
  go_cut [7, 9] from 15 to 33 (fun xv _ wx => ∃ v es, xv = v ∧ Hid (GX (w.heap.size + 1) w wx v es) ∧ es.length ≤ 6 ∧ Hid (wx.heap[w.heap.size + 1]? = some (.cells #[] 52)))
  case first =>
    go_wp2_with fail
    go_loopw [7, 9] (fun xv iv wr => ∃ (j : Nat) (v : Value) (es : List EN), j ≤ 6 ∧ iv = .int .i64 j ∧ xv = v ∧ Hid (GX (w.heap.size + 1) w wr v es) ∧ es.length ≤ j ∧ Hid (wr.heap[w.heap.size + 1]? = some (.cells #[] 52))) (fun _ i _ => 6 - (intOf i).toNat)
    case atStart => exact ⟨0, _, [], by omega, rfl, rfl, HG0, by simp, HY0⟩
    case round =>
      obtain ⟨j, v, es, hj, rfl, rfl, HG, hle, HY⟩ := hrel
      obtain ⟨ov, oc, rfl⟩ := HG.out.form
      by_cases hin : j < len0 ∧ j < 6
      · obtain ⟨hi1, hi2⟩ := hin
        have hi1' : (j : Int) < (len0 : Int) := by omega
        have hi2' : (j : Int) < 6 := by omega
        obtain ⟨r, hrj⟩ : ∃ r, rs0[j]? = some r := ⟨_, List.getElem?_eq_getElem (by have := HL0.out; omega)⟩
        have hra := CFat.below (HV0.out.2 r (List.mem_of_getElem? hrj)) HG.out.2.2.1
        obtain ⟨g, off, hge, hg, l0, l1, l2, l3, l4, l5, l6⟩ := en_loads HV0.out.1 HG.out.2.2.1 hrj
        subst hge
        have cN := near13O j (by omega) r wr hra
        clear hra hrj hg
        go_wp2_with fail
        refine Calls.mono cN ?_
        rintro ev wN ⟨t0, y, de, db, dk, n1, n2, a1, p1, a2, p2, rfl, hD, hbN⟩
        clear cN l0 l1 l2 l3 l4 l5 l6
        obtain ⟨M, C, rfl, ⟨rfl, hs1, hs2⟩, s1, s2, o1, o2⟩ := hD
        have hG1 := HG.out.keep hbN
        have hbrow : ∀ b, (Value.slice ov es.length oc).ownBlock = some b → b < wr.heap.size := fun b q => by obtain ⟨c, hc⟩ := own_typeN HG.out.1 q; exact lt_heap hc
        have hYr := HG.out.2.2.2.2
        have hlr : (⟨t0, y, ⟨de, db, dk, M, C⟩, a1, p1, a2, p2⟩ : EN).lr (fun b => (Value.slice ov es.length oc).ownBlock ≠ some b ∧ b ≠ (w.heap.size + 1)) wN :=
          EN.lr.move (e := ⟨t0, y, ⟨de, db, dk, M, C⟩, a1, p1, a2, p2⟩) (P := fun b => wr.heap.size < b) ⟨lr_of rfl s1 o1, lr_of rfl s2 o2⟩ (Nat.le_refl _) fun b hb hp => ⟨rfl, fun q => by have := hbrow b q; omega, by omega⟩
        have HX := Lib.hid (And.intro hG1 (And.intro hlr (And.intro (show short (⟨de, db, dk, M, C⟩ : CF) from ⟨hs1, hs2⟩) hbN)))
        have hwcs : w.heap.size ≤ wN.heap.size := Nat.le_trans HG.out.2.2.1.size hbN.size
        clear hG1 hbrow hlr hbN s1 s2 o1 o2 hs1 hs2 hYr
        go_wp2_with (at_builtin; refine wp_appE Try.underlying63 hi hz0 hz1 hz2 rfl (by decide) rfl (.tmp 25) (.tmp 32) rfl w.heap.size _ _ _ rfl (HX.out.1.1.alloc _) _ _ 1 (enCells [⟨t0, y, ⟨de, db, dk, M, C⟩, a1, p1, a2, p2⟩]) rfl (SR.lit _ _ #[.int .i64 t0, .int .i64 y, .int .i64 de, .int .i64 db, .int .i64 dk, .slice a1 M.length p1, .slice a2 C.length p2] 7 1 (by decide) rfl) (by decide) (enCells_one _) (by unfold maxLen; omega) (by omega) (by simp; omega) ?_)
        intro v2 wD own2 hg2 hn2
        have HF := Lib.hid (gx_new (e := ⟨t0, y, ⟨de, db, dk, M, C⟩, a1, p1, a2, p2⟩) HX.out.1 HX.out.2.2.1 HX.out.2.1 own2 hg2 hn2)
        have HYN := Lib.hid (GX.empty_keep (below_at HX.out.2.2.2 (lt_heap HY.out) HY.out) HX.out.1.2.2.2.1 hg2)
        obtain ⟨a3, c3, rfl⟩ := owns_form3 own2
        clear own2 hg2 hn2 HX
        go_wp2_with fail
        go_roundw
        case rel => exact ⟨j + 1, _, _, by omega, by go_num, rfl, HF, by simp; omega, HYN⟩
        case measure => simp [intOf]; omega
      · have hout : ¬ (j < len0) ∨ (j < len0 ∧ ¬ (j < 6)) := by omega
        have HF := Lib.hid (show ∃ v es', Value.slice ov es.length oc = v ∧ Hid (GX (w.heap.size + 1) w wr v es') ∧ es'.length ≤ 6 ∧ Hid (wr.heap[w.heap.size + 1]? = some (.cells #[] 52)) from ⟨_, es, rfl, HG, by omega, HY⟩)
        rcases hout with ho | ⟨ho, ho2⟩
        · have ho' : ¬ ((j : Int) < (len0 : Int)) := by omega
          go_wp2_with fail
          go_meet
          exact HF.out
        · have ho' : (j : Int) < (len0 : Int) := by omega
          have ho2' : ¬ ((j : Int) < 6) := by omega
          go_wp2_with fail
          go_meet
          exact HF.out
  case rest =>
    obtain ⟨vx, es, rfl, HGX, h6, HY⟩ := hcut
    obtain ⟨xa, xc, rfl⟩ := HGX.out.form
    obtain ⟨WL, hWL⟩ : ∃ W, wc = W := ⟨_, rfl⟩
    subst hWL
    have HGY := Lib.hid (show GX w.heap.size w wc (.slice (some ⟨w.heap.size + 1, 0, none⟩) 0 0) [] from ⟨⟨rfl, .inr ⟨w.heap.size + 1, 0, #[], rfl, by omega, HY.out, Nat.le_refl _, by decide, rfl, rfl⟩⟩, by simp, HGX.out.2.2.1, by simp [Value.ownBlock], by have := HGX.out.2.2.2.2; omega⟩)
    have HS0 := Lib.hid (show Second (w.heap.size + 1) wc wc (.slice (some ⟨w.heap.size + 1, 0, none⟩) 0 0) from ⟨Only.refl _ _, .inl rfl⟩)
    clear HG0 HY0 HY
    obtain ⟨WL, hWL⟩ : ∃ W, W = wc := ⟨_, rfl⟩
    rw [← hWL] at HS0
    have HS0 : Hid (Second (w.heap.size + 1) WL wc (.slice (some ⟨w.heap.size + 1, 0, none⟩) 0 0)) := by
      subst hWL
      exact HS0
    rw [← hWL] at HGX
    clear hWL
    go_upto_block 2 with fail
    go_cut [8, 10] from 34 to 52 (fun yv _ wx => ∃ v es, yv = v ∧ Hid (GX w.heap.size w wx v es) ∧ es.length ≤ 6 ∧ Hid (Second (w.heap.size + 1) WL wx v))
    case first =>
      go_wp2_with fail
      go_loopw [8, 10] (fun xv iv wr => ∃ (j : Nat) (v : Value) (es : List EN), j ≤ 6 ∧ iv = .int .i64 j ∧ xv = v ∧ Hid (GX w.heap.size w wr v es) ∧ es.length ≤ j ∧ Hid (Second (w.heap.size + 1) WL wr v)) (fun _ i _ => 6 - (intOf i).toNat)
      case atStart => exact ⟨0, _, [], by omega, rfl, rfl, HGY, by simp, HS0⟩
      case round =>
        obtain ⟨j, v, es, hj, rfl, rfl, HG, hle, HS⟩ := hrel
        obtain ⟨ov, oc, rfl⟩ := HG.out.form
        by_cases hin : j < len1 ∧ j < 6
        · obtain ⟨hi1, hi2⟩ := hin
          have hi1' : (j : Int) < (len1 : Int) := by omega
          have hi2' : (j : Int) < 6 := by omega
          obtain ⟨r, hrj⟩ : ∃ r, rs1[j]? = some r := ⟨_, List.getElem?_eq_getElem (by have := HL1.out; omega)⟩
          have hra := CFat.below (HV1.out.2 r (List.mem_of_getElem? hrj)) HG.out.2.2.1
          obtain ⟨g, off, hge, hg, l0, l1, l2, l3, l4, l5, l6⟩ := en_loads HV1.out.1 HG.out.2.2.1 hrj
          subst hge
          have cN := near13O j (by omega) r wr hra
          clear hra hrj hg
          go_wp2_with fail
          refine Calls.mono cN ?_
          rintro ev wN ⟨t0, y, de, db, dk, n1, n2, a1, p1, a2, p2, rfl, hD, hbN⟩
          clear cN l0 l1 l2 l3 l4 l5 l6
          obtain ⟨M, C, rfl, ⟨rfl, hs1, hs2⟩, s1, s2, o1, o2⟩ := hD
          have hG1 := HG.out.keep hbN
          have hbrow : ∀ b, (Value.slice ov es.length oc).ownBlock = some b → b < wr.heap.size := fun b q => by obtain ⟨c, hc⟩ := own_typeN HG.out.1 q; exact lt_heap hc
          have hYr := HG.out.2.2.2.2
          have hlr : (⟨t0, y, ⟨de, db, dk, M, C⟩, a1, p1, a2, p2⟩ : EN).lr (fun b => (Value.slice ov es.length oc).ownBlock ≠ some b ∧ b ≠ w.heap.size) wN :=
            EN.lr.move (e := ⟨t0, y, ⟨de, db, dk, M, C⟩, a1, p1, a2, p2⟩) (P := fun b => wr.heap.size < b) ⟨lr_of rfl s1 o1, lr_of rfl s2 o2⟩ (Nat.le_refl _) fun b hb hp => ⟨rfl, fun q => by have := hbrow b q; omega, by omega⟩
          have HX := Lib.hid (And.intro hG1 (And.intro hlr (And.intro (show short (⟨de, db, dk, M, C⟩ : CF) from ⟨hs1, hs2⟩) hbN)))
          have hwcs : w.heap.size ≤ wN.heap.size := Nat.le_trans HG.out.2.2.1.size hbN.size
          clear hG1 hbrow hlr hbN s1 s2 o1 o2 hs1 hs2 hYr
          go_wp2_with (at_builtin; refine wp_appE Try.underlying63 hi hz0 hz1 hz2 rfl (by decide) rfl (.tmp 44) (.tmp 51) rfl w.heap.size _ _ _ rfl (HX.out.1.1.alloc _) _ _ 1 (enCells [⟨t0, y, ⟨de, db, dk, M, C⟩, a1, p1, a2, p2⟩]) rfl (SR.lit _ _ #[.int .i64 t0, .int .i64 y, .int .i64 de, .int .i64 db, .int .i64 dk, .slice a1 M.length p1, .slice a2 C.length p2] 7 1 (by decide) rfl) (by decide) (enCells_one _) (by unfold maxLen; omega) (by omega) (by simp; omega) ?_)
          intro v2 wD own2 hg2 hn2
          have HF := Lib.hid (gx_new (e := ⟨t0, y, ⟨de, db, dk, M, C⟩, a1, p1, a2, p2⟩) HX.out.1 HX.out.2.2.1 HX.out.2.1 own2 hg2 hn2)
          have HSN := Lib.hid ((HS.out.keep HX.out.2.2.2).new hg2 hn2)
          obtain ⟨a3, c3, rfl⟩ := owns_form3 own2
          clear own2 hg2 hn2 HX
          go_wp2_with fail
          go_roundw
          case rel => exact ⟨j + 1, _, _, by omega, by go_num, rfl, HF, by simp; omega, HSN⟩
          case measure => simp [intOf]; omega
        · have hout : ¬ (j < len1) ∨ (j < len1 ∧ ¬ (j < 6)) := by omega
          have HF := Lib.hid (show ∃ v es', Value.slice ov es.length oc = v ∧ Hid (GX w.heap.size w wr v es') ∧ es'.length ≤ 6 ∧ Hid (Second (w.heap.size + 1) WL wr v) from ⟨_, es, rfl, HG, by omega, HS⟩)
          rcases hout with ho | ⟨ho, ho2⟩
          · have ho' : ¬ ((j : Int) < (len1 : Int)) := by omega
            go_wp2_with fail
            go_meet
            exact HF.out
          · have ho' : (j : Int) < (len1 : Int) := by omega
            have ho2' : ¬ ((j : Int) < 6) := by omega
            go_wp2_with fail
            go_meet
            exact HF.out
    case rest =>
      obtain ⟨vy, fs, rfl, HGY2, h62, HS2⟩ := hcut
      have hEx : Ens wc (.slice xa es.length xc) es := HGX.out.only h6 HS2.out.1
      obtain ⟨ya, yc, rfl⟩ := HGY2.out.form
      have hEy : Ens wc (.slice ya fs.length yc) fs := HGY2.out.ens h62
      have HEX := Lib.hid hEx
      have HEY := Lib.hid hEy
      have HBW := Lib.hid HGY2.out.2.2.1
      clear HGX HGY HS0 HGY2 HS2 hEx hEy hi hz0 hz1 hz2 HV0 HV1 HL0 HL1
      obtain ⟨m, hm⟩ : ∃ m, es.length = m := ⟨_, rfl⟩
      rw [hm] at HEX h6
      rw [hm]
      have HM := Lib.hid hm
      clear hm
      obtain ⟨W2, hW2⟩ : ∃ W, wc = W := ⟨_, rfl⟩
      subst hW2
      go_upto_if 53 with fail
      go_cut [8] (fun yv wx => ∃ v' fs', yv = v' ∧ Hid (Ens wx v' fs') ∧ Hid (Ens wx (.slice xa m xc) es) ∧ Hid (Below w.heap.size w wx))
      case first =>
        cases cut
        · have HF := Lib.hid (show ∃ v' fs', Value.slice ya fs.length yc = v' ∧ Hid (Ens wc v' fs') ∧ Hid (Ens wc (.slice xa m xc) es) ∧ Hid (Below w.heap.size w wc) from ⟨_, fs, rfl, HEY, HEX, HBW⟩)
          go_wp2_with fail
          go_meet
          exact HF.out
        · obtain ⟨q, hq⟩ : ∃ q, m / 2 = q := ⟨_, rfl⟩
          have hqi : (m : Int) / 2 = (q : Int) := by omega
          have hqm : (q : Int) ≤ (m : Int) := by omega
          obtain ⟨xa', xc', he, hcap, hcap2, -⟩ := HEX.out.el
          injection he with e1 e2 e3
          subst e3
          have hqc : (q : Int) ≤ (xc : Int) := by have := HM.out; omega
          have hqc2 : q ≤ xc := by have := HM.out; omega
          have hE2 : Ens wc (.slice xa q xc) (es.take q) := ⟨elts_take HEX.out.el q (by have := HM.out; omega), fun e he => HEX.out.at_ e (List.mem_of_mem_take he), fun e he => HEX.out.sh e (List.mem_of_mem_take he), by rw [List.length_take]; have := HEX.out.six; omega⟩
          have HE2 := Lib.hid hE2
          have HF := Lib.hid (show ∃ v' fs', Value.slice xa q xc = v' ∧ Hid (Ens wc v' fs') ∧ Hid (Ens wc (.slice xa m xc) es) ∧ Hid (Below w.heap.size w wc) from ⟨_, _, rfl, HE2, HEX, HBW⟩)
          clear hE2 hq hcap hcap2 e1 e2
          go_wp2_with fail
          go_meet
          exact HF.out
      case rest =>
        clear HEX HEY HBW
        obtain ⟨v', fs', rfl, HEY, HEX, HBW⟩ := hcut
        obtain ⟨W3, hW3⟩ : ∃ W, wc = W := ⟨_, rfl⟩
        subst hW3
        have cc := ecmds es _ wc HEX.out.el (fun e he => ⟨HEX.out.at_ e he, HEX.out.sh e he⟩) (by have := HEX.out.six; omega)
        go_wp2_with fail
        refine Calls.mono cc ?_
        rintro ev w3 ⟨vc, gs, rfl, hown, hmap, hb3⟩
        have hgl : gs.length = m := by have := congrArg List.length hmap; rw [List.length_map, List.length_map] at this; have := HM.out; omega
        rw [hgl] at hown
        obtain ⟨ga, gc, rfl⟩ := owns_form3 hown
        have HEX3 := Lib.hid (HEX.out.below hb3)
        have HEY3 := Lib.hid (HEY.out.below hb3)
        have HB3 := Lib.hid (HBW.out.trans (hb3.mono HBW.out.size))
        have HC := Lib.hid (And.intro hown hmap)
        have hm6 : m ≤ 6 := h6
        clear hown hmap hb3 cc hgl
        go_wp2_with fail
        go_loopw [12] (fun iv wx => ∃ (j q : Nat), iv = .int .i64 j ∧ j ≤ m ∧ wx = w3.drewN q) (fun iv _ => m - (intOf iv).toNat)
        case atStart => exact ⟨0, 0, rfl, by omega, rfl⟩
        case round =>
          obtain ⟨j, q, rfl, hj, rfl⟩ := hrel
          by_cases hlt : j < m
          · have hji : (j : Int) < (m : Int) := by omega
            obtain ⟨x, hx⟩ : ∃ x, es[j]? = some x := ⟨_, List.getElem?_eq_getElem (by have := HM.out; omega)⟩
            obtain ⟨g, hg⟩ : ∃ g, gs[j]? = some g := ⟨_, List.getElem?_eq_getElem (by have := congrArg List.length HC.out.2; rw [List.length_map, List.length_map] at this; have := HM.out; omega)⟩
            have hgx : g.x = x.x := by
              have h1 : (gs.map (·.x))[j]? = some g.x := by simp [hg]
              have h2 : (es.map (·.x))[j]? = some x.x := by simp [hx]
              rw [HC.out.2, h2] at h1
              injection h1 with h1
              exact h1.symm
            obtain ⟨g1, off, hge, hg1, l0, l1, -⟩ := en_loads HEX3.out.el (Below.refl _ _) hx
            subst hge
            have hown := HC.out.1
            have hkc := cmCells_kind gs j g hg
            rcases hown.2 with ⟨hv, h0⟩ | ⟨gg, cap2, cur, hv, hbb, hcur, hnc, hcm, hcs, htk⟩
            · omega
            · injection hv with v1 v2 v3
              subst v1 v3
              have hcell : w3.cell? ⟨gg, j * 6, none⟩ = some (.int .i64 x.x) := by
                rw [← hgx, ← hkc]
                exact hown.cellAt (j * 6) (by omega)
              have hqc : (j : Int) < (gc : Int) := by omega
              clear hown hkc hcur hnc hcm hcs htk hx hg hgx hg1 l0
              go_wp2_with fail
              go_quiet (fail)
              go_wp2_with fail
              go_roundw
              case rel => exact ⟨j + 1, _, by go_num, by omega, rfl⟩
              case measure => simp [intOf]; omega
          · obtain rfl : j = m := by omega
            have HE4 := Lib.hid (HEX3.out.below (below_drewN' (Below.refl _ _) q))
            have HE5 := Lib.hid (HEY3.out.below (below_drewN' (Below.refl _ _) q))
            have HB4 := Lib.hid (below_drewN' HB3.out q)
            clear HEX3 HEY3 HB3 HC
            go_wp2_with fail
            refine Calls.mono (awake13 _) ?_
            rintro ev w5 ⟨rfl, hb5⟩
            have HE6 := Lib.hid (HE4.out.below hb5)
            have HE7 := Lib.hid (HE5.out.below hb5)
            have HB5 := Lib.hid (HB4.out.trans (hb5.mono HB4.out.size))
            clear hb5
            go_wp2_with fail
            refine Calls.mono (eequal es fs' _ _ _ HE6.out.el HE7.out.el HE6.out.at_ HE7.out.at_) ?_
            rintro ev w6 ⟨rfl, hb6⟩
            have HE8 := Lib.hid (HE6.out.below hb6)
            have HE9 := Lib.hid (HE7.out.below hb6)
            have HB6 := Lib.hid (HB5.out.trans (hb6.mono HB5.out.size))
            clear hb6
            go_wp2_with fail
            refine Calls.mono (rall13 es fs' _ _ _ HE8.out.el HE9.out.el HE8.out.at_ HE9.out.at_) ?_
            rintro ev w7 ⟨rfl, hb7⟩
            have HE10 := Lib.hid (HE8.out.below hb7)
            have HB7 := Lib.hid (HB6.out.trans (hb7.mono HB6.out.size))
            have ce := eequal es es _ _ _ HE10.out.el HE10.out.el HE10.out.at_ HE10.out.at_
            rw [allE_self] at ce
            clear hb7
            generalize allE es fs' = eb
            cases eb
            all_goals
              go_wp2_with fail
              refine Calls.mono ce ?_
              rintro ev w8 ⟨rfl, hb8⟩
              have HB8 := Lib.hid (HB7.out.trans (hb8.mono HB7.out.size))
              clear hb8
              go_wp2_with fail
              go_ret
              exact ⟨rfl, HB8.out⟩
end Go.Proofs.Ytlhjgpedmnjbpaa
