/-
  FrameAll's law.
-/
import Derived.Test.YtbmjkieikaapfaaDoorFrmF
import Derived.Test.YtbmjkieikaapfaaDoorFrmC
import Derived.BigQuiet
import Derived.Handy
namespace Go.Proofs.YtbmjkieikaapfaaDoor
open Go.RowKit
set_option linter.unusedVariables false
set_option linter.unusedSimpArgs false

theorem str_at {w wr : World} {a : Option Addr} {len cap : Nat} (h : Fits w (.slice .str) [.slice a len cap]) (hb : Below w.heap.size w wr) (i : Nat) (hi : i < len) : ∃ b off s, a = some ⟨b, off, none⟩ ∧ wr.cell? ⟨b, off + i, none⟩ = some (.string s) ∧ s.size ≤ maxLen := by
  obtain ⟨_, _, h0 | ⟨b, off, rfl, hlt, hc⟩⟩ := h.slice
  · omega
  · obtain ⟨ys, _, hy, s, rfl, hs⟩ := hc i hi
    refine ⟨b, off, s, rfl, ?_, hs⟩
    have := hy 0 (.string s) rfl
    rw [show Sh.size .str = 1 from rfl, Nat.mul_one, Nat.add_zero] at this
    exact (hb.cell (p := ⟨b, off + i, none⟩) hlt).trans this
theorem slice_len3 {w : World} {a : Option Addr} {len cap : Nat} {s : Sh} (h : Fits w (.slice s) [.slice a len cap]) : len ≤ 9223372036854775807 := by
  have := h.slice
  unfold maxLen at this
  omega
theorem cutM (s : ByteArray) (m : Int) (hm : 0 ≤ m) : ∃ (t : Int) (T : List UInt8), min (s.size : Int) m = t ∧ 0 ≤ t ∧ t ≤ (s.size : Int) ∧ s.extract 0 t.toNat = ⟨T.toArray⟩ ∧ (T.length : Int) ≤ m := by
  refine ⟨_, (s.extract 0 (min (s.size : Int) m).toNat).data.toList, rfl, by omega, by omega, by rfl, ?_⟩
  have h : (s.extract 0 (min (s.size : Int) m).toNat).data.toList.length = (s.extract 0 (min (s.size : Int) m).toNat).size := rfl
  rw [h, ByteArray.size_extract]
  omega
theorem str_ne {X : List UInt8} (h : X ≠ []) : (⟨X.toArray⟩ : ByteArray) ≠ ⟨#[]⟩ := fun q => h (by
  injection q with q
  simpa using congrArg Array.toList q)
theorem str_row {w : World} {a : Option Addr} {n cap : Nat} {l : List (List UInt8)} (h : SR w (.slice a n cap) 1 n (tCs l)) (j : Nat) (hj : j < n) : ∃ b off t, a = some ⟨b, off, none⟩ ∧ w.cell? ⟨b, off + j, none⟩ = some (.string ⟨t.toArray⟩) ∧ l[j]? = some t := by
  obtain ⟨a', cap', he, h1, h2, h3, h4⟩ := h
  injection he with e1 _ e2
  subst e1 e2
  rcases h4 with h4 | ⟨b, off, rfl, hb, hc⟩
  · omega
  · rw [tCs_length] at h3
    have hl : j < l.length := by omega
    refine ⟨b, off, l[j], rfl, hc j _ ?_, List.getElem?_eq_getElem hl⟩
    simp [tCs, hl]
theorem laidF_more (ts : List (List UInt8)) (t : List UInt8) : laidF (ts ++ [t]) = laidF ts ++ frameB t := by simp [laidF]
theorem LR.drew {w wr : World} {rb : Nat} {v : Value} {r : RS} {l : List (List UInt8)} (h : LR w wr rb v r l) : LR w wr.drew rb v r l := h.go (below_drew' (Below.refl _ _))

set_option maxHeartbeats 6400000 in
set_option maxRecDepth 100000 in
theorem frameall_law (a0 : Option Addr) (len0 cap0 : Nat) (s1 : ByteArray) (w : World) (f0 : Fits w (.slice .str) [.slice a0 len0 cap0]) (hs1 : s1.size ≤ maxLen) (hT : Tab w) :
    Calls Tryd.prog 4 #[.slice a0 len0 cap0, .string s1] w fun e w' => e = .returned (.bool true) ∧ Below w.heap.size w w' := by
  obtain ⟨i0, hi, hz0, hz1, hz2⟩ := info_str
  obtain ⟨tq, TL, ht1, ht2, ht3, ht4, ht5⟩ := cutM s1 30 (by decide)
  unfold maxLen at hs1
  have hl0 := slice_len3 f0
  have F0 := Lib.hid f0
  have HT := Lib.hid hT
  have hw0 : (w.alloc (.cells #[] 9)).ownsRow w.heap.size 9 1 (.slice (some ⟨w.heap.size, 0, none⟩) 0 0) 0 (tCs []) := World.ownsRow_lit (base := w.heap.size) w #[] 0 (Nat.le_refl _) (by decide) rfl
  have hb0 := (Below.refl w.heap.size w).alloc (Nat.le_refl _) (.cells #[] 9)
  have H0 := Lib.hid (And.intro hw0 hb0)
  clear f0 hT hw0 hb0
  go_enter Tryd.func4, Tryd.ntmps4
  go_upto_block 0 with fail
  go_cut [5, 6] from 18 to 46 (fun sv wv wx => ∃ (n : Nat) (ts : List (List UInt8)) (S : List UInt8), sv = .string ⟨S.toArray⟩ ∧ ts.length = n ∧ n ≤ 8 ∧ S.length ≤ 600 ∧ Hid (S = laidF ts) ∧ Hid (∀ t ∈ ts, t.length ≤ 60) ∧ Hid (wx.ownsRow w.heap.size 9 1 wv n (tCs ts) ∧ Below w.heap.size w wx))
  case first =>
    go_wp2_with fail
    go_loopw [5, 6, 7] (fun sv wv iv wr => ∃ (n : Nat) (ts : List (List UInt8)) (S : List UInt8), iv = .int .i64 n ∧ sv = .string ⟨S.toArray⟩ ∧ n ≤ len0 ∧ ts.length = n ∧ n ≤ 8 ∧ S.length ≤ 73 * n ∧ Hid (S = laidF ts) ∧ Hid (∀ t ∈ ts, t.length ≤ 60) ∧ Hid (wr.ownsRow w.heap.size 9 1 wv n (tCs ts) ∧ Below w.heap.size w wr)) (fun _ _ iv _ => 8 - (intOf iv).toNat)
    case atStart => exact ⟨0, [], [], rfl, rfl, Nat.zero_le _, rfl, by decide, by decide, Lib.hid rfl, Lib.hid (by simp), H0⟩
    case round =>
      obtain ⟨n, ts, S, rfl, rfl, hnl, htn, hn8, hSl, HSE, HS, HR⟩ := hrel
      clear ht1 ht2 ht3 ht4 ht5
      by_cases hc : n < len0 ∧ n < 8
      · obtain ⟨hc1, hc2⟩ := hc
        obtain ⟨b, off, s, rfl, hcell, hs⟩ := str_at F0.out HR.out.2 n hc1
        obtain ⟨t, T, t1, t2, t3, t4, t5⟩ := cutM s 60 (by decide)
        unfold maxLen at hs
        have cp := fun w' => rput3 T w' (by omega)
        have hF := frame_len (t := T) (by omega)
        obtain ⟨F, hFe⟩ : ∃ F, frameB T = F := ⟨_, rfl⟩
        simp only [hFe] at cp
        rw [hFe] at hF
        have HFE := Lib.hid hFe
        have hsum : S.length + F.length ≤ 9223372036854775807 := by omega
        clear hFe
        go_upto_region 5 with fail
        go_quiet (fail)
        have HR1 := Lib.hid (And.intro (owns_below HR.out.1 (below_drewN' (Below.refl _ wr) nq)) (below_drewN' HR.out.2 nq))
        generalize wr.drewN nq = W1 at *
        clear hcell t1 t2 t3 t4
        go_wp2_with fail
        refine Calls.mono (cp W1) ?_
        rintro e w2 ⟨rfl, hb⟩
        have HR2 := Lib.hid (And.intro (owns_below HR1.out.1 hb) (HR1.out.2.trans (hb.mono HR1.out.2.size)))
        have hap := str_append S F
        clear cp hb
        go_wp2_with (at_builtin; refine wp_app Tryd.underlying30 hi hz0 hz1 hz2 rfl (by decide) rfl (.tmp 43) (.tmp 45) rfl w.heap.size _ _ _ rfl (HR2.out.1.alloc _) _ 1 (tCs [T]) rfl (SR.lit _ _ #[.string ⟨T.toArray⟩] 1 1 (by decide) rfl) ?c1 ?c2 ?c3 ?c4 ?_)
        case c1 => exact tCs_one _
        case c2 => unfold maxLen; omega
        case c3 => omega
        case c4 => have := HR2.out.2.size; simp; omega
        intro v' w5 hown hgr
        have HR5 := Lib.hid (show w5.ownsRow w.heap.size 9 1 v' (n + 1) (tCs (ts ++ [T])) ∧ Below w.heap.size w w5 from ⟨by rw [tCs_append]; exact hown, below_app (HR2.out.2.alloc HR2.out.2.size _) hgr (HR2.out.1.alloc _) (Nat.le_refl _) (by simp; have := HR2.out.2.size; omega)⟩)
        clear hown hgr
        go_wp2_with fail
        go_roundw
        case rel =>
          refine ⟨n + 1, ts ++ [T], S ++ F, by go_num, ?_, by omega, by simp [htn], by omega, by rw [List.length_append]; omega, Lib.hid (by rw [laidF_more, HFE.out, HSE.out]), Lib.hid (fun x hx => ?_), HR5⟩
          · first | rw [hap] | rfl
          · rcases List.mem_append.1 hx with q | q
            · exact HS.out x q
            · rw [List.mem_singleton.1 q]; omega
        case measure => simp [intOf]; omega
      · have hfin : n = len0 ∨ (n = 8 ∧ 8 < len0) := by omega
        have HF := Lib.hid HR.out
        clear hc
        rcases hfin with rfl | ⟨rfl, h8⟩
        all_goals
          go_wp2_with fail
          go_meet
          exact ⟨_, ts, S, rfl, htn, by omega, by omega, HSE, HS, HF⟩
  case rest =>
    obtain ⟨n, ts, S, rfl, htn, hn8, hS6, HSE, HS, HR⟩ := hcut
    have hsum : S.length + TL.length ≤ 9223372036854775807 := by omega
    have hap := str_append S TL
    obtain ⟨s, hs⟩ : ∃ s, S ++ TL = s := ⟨_, rfl⟩
    have hsl : s.length ≤ 700 := by rw [← hs, List.length_append]; omega
    rw [hs] at hap
    have HSS := Lib.hid (show laidF ts ++ TL = s by rw [← HSE.out]; exact hs)
    clear hs
    obtain ⟨W0, hW0⟩ : ∃ W0, W0 = wc := ⟨_, rfl⟩
    subst hW0
    obtain ⟨av, pv, hvv, -, -⟩ := (SR.owns HR.out.1).form
    subst hvv
    have hy := heap_alloc_self W0 (.cells #[.string ⟨s.toArray⟩, .int .i64 0] 32)
    have hba := (Below.refl W0.heap.size W0).alloc (Nat.le_refl _) (.cells #[.string ⟨s.toArray⟩, .int .i64 0] 32)
    have HL := Lib.hid (show LR w (W0.alloc (.cells #[.string ⟨s.toArray⟩, .int .i64 0] 32)) W0.heap.size (.slice av n pv) (itF s 0) (wantF ts s 0) from ⟨hy, by rw [wantF_zero, htn]; exact owns_below HR.out.1 hba, HR.out.2.trans (hba.mono HR.out.2.size)⟩)
    have hwP : w.heap.size ≤ W0.heap.size := HR.out.2.size
    clear hy hba
    go_upto_block 2 with fail
    generalize W0.alloc (.cells #[.string ⟨s.toArray⟩, .int .i64 0] 32) = W1 at *
    obtain ⟨P, hP⟩ : ∃ P, W0.heap.size = P := ⟨_, rfl⟩
    rw [hP] at HL hwP
    rw [hP]
    clear hP HR H0 ht1 ht2 ht3 ht4 ht5 hap hsum
    go_cut [6, 10, 11] from 56 to 83 (fun wv mv nv wx => ∃ k : Nat, mv = .int .i64 ((s.length : Int) - ((itF s k).s.length : Int)) ∧ nv = .int .i64 k ∧ Hid (GoF s k ∧ StF s k) ∧ Hid (SR wx wv 1 (wantF ts s k).length (tCs (wantF ts s k)) ∧ Below w.heap.size w wx))
    case first =>
      go_wp2_with fail
      go_loopw [6, 10, 11] (fun wv mv nv wr => ∃ k : Nat, mv = .int .i64 ((s.length : Int) - ((itF s k).s.length : Int)) ∧ nv = .int .i64 k ∧ Hid (GoF s k) ∧ Hid (LR w wr P wv (itF s k) (wantF ts s k))) (fun _ _ nv _ => s.length - (intOf nv).toNat)
      case atStart => exact ⟨0, by simp [itF], rfl, Lib.hid (fun j hj => by omega), HL⟩
      case round =>
        obtain ⟨k, rfl, rfl, HG, HA⟩ := hrel
        have hgl := go_len HG.out
        have hkl2 := itF_len s (k + 1)
        have hkl := itF_len s k
        have c0 := cell_at HA.out.blk 0 (v := .string ⟨(itF s k).s.toArray⟩) rfl
        have c1 := cell_at HA.out.blk 1 (v := .int .i64 (itF s k).e) rfl
        have ct := fun w' => rtake3 (itF s k) w' (itF_ok s k) (by omega)
        rw [go_e0 HG.out] at c1
        have HE0 := Lib.hid (go_e0 HG.out)
        unfold rC at ct
        rw [go_e0 HG.out] at ct
        change ∀ w', Calls _ _ _ w' fun e w'' => e = .returned (.tuple #[.agg #[.string ⟨(itF s (k + 1)).s.toArray⟩, .int .i64 (itF s (k + 1)).e], .string ⟨(itF s k).frmB.toArray⟩]) ∧ _ at ct
        obtain ⟨X, hX⟩ : ∃ X, (itF s k).s = X := ⟨_, rfl⟩
        obtain ⟨B, hB⟩ : ∃ B, (itF s k).frmB = B := ⟨_, rfl⟩
        obtain ⟨Y, hY⟩ : ∃ Y, itF s (k + 1) = Y := ⟨_, rfl⟩
        rw [hX] at c0
        simp only [hX, hB, hY] at ct
        rw [hY] at hkl2
        obtain ⟨ys, ye⟩ := Y
        simp only at ct hkl2
        obtain ⟨R, hR⟩ : ∃ R, (itF s k).s.length = R := ⟨_, rfl⟩
        rw [hR] at hgl hkl ⊢
        have HRR := Lib.hid hR
        have HX := Lib.hid (And.intro hX (And.intro hB hY))
        clear hX hB hY hR
        by_cases hL : X = []
        · have HF := Lib.hid (And.intro (SR.owns HA.out.row) HA.out.below)
          have HST := Lib.hid (show GoF s k ∧ StF s k from ⟨HG.out, .inl (by rw [HX.out.1]; exact hL)⟩)
          subst hL
          have c0' : wr.cell? ⟨P, 0, none⟩ = some (.string ⟨#[]⟩) := c0
          clear ct c0
          go_wp2_with fail
          go_meet
          exact ⟨k, by rw [HRR.out], rfl, HST, HF⟩
        · have hx2 : X.isEmpty = false := by simpa using hL
          have HNE := Lib.hid (show (itF s k).s ≠ [] by rw [HX.out.1]; exact hL)
          go_wp2_with fail
          refine Calls.mono (ct wr) ?_
          rintro e w2 ⟨rfl, hb2⟩
          have HA2 := HA.out.go hb2
          have hbq := (Below.refl w2.heap.size w2).alloc (Nat.le_refl _) (.cells #[.string ⟨ys.toArray⟩, .int .i64 ye] 32)
          have HA3 := Lib.hid (HA2.go hbq)
          have hq := heap_alloc_self w2 (.cells #[.string ⟨ys.toArray⟩, .int .i64 ye] 32)
          have hPQ : P < w2.heap.size := lt_heap HA2.blk
          clear HA2 hbq hb2 c0 c1 ct hx2 hL
          go_upto_region 13 with fail
          generalize w2.alloc (.cells #[.string ⟨ys.toArray⟩, .int .i64 ye] 32) = w3 at *
          obtain ⟨Q, hQ⟩ : ∃ Q, w2.heap.size = Q := ⟨_, rfl⟩
          rw [hQ] at hq hPQ
          simp only [hQ]
          have d1 := cell_at hq 1 (v := .int .i64 ye) rfl
          have HQ := Lib.hid hq
          clear hQ hq
          by_cases hE : ye = 0
          · subst hE
            have HGN := Lib.hid (HG.out.next HNE.out (by rw [HX.out.2.2]))
            have hgl2 := go_len HGN.out
            rw [HX.out.2.2] at hgl2
            simp only at hgl2
            have hw1 : IntKind.i64.wrap ((s.length : Int) - (ys.length : Int)) = (s.length : Int) - (ys.length : Int) := by rw [IntKind.wrap_i64]; omega
            by_cases hk : ts.length ≤ k
            · have hwl : (wantF ts s k).length = k := by rw [wantF_len]; omega
              obtain ⟨bv, qv, hvv, -, -⟩ := (SR.owns HA3.out.row).form
              rw [hwl] at hvv
              subst hvv
              go_wp2_with (at_builtin; refine wp_app Tryd.underlying30 hi hz0 hz1 hz2 rfl (by decide) rfl (.tmp 71) (.tmp 73) rfl w.heap.size _ _ _ rfl (HA3.out.row.alloc _) _ 1 (tCs [B]) rfl (SR.lit _ _ #[.string ⟨B.toArray⟩] 1 1 (by decide) rfl) ?c1 ?c2 ?c3 ?c4 ?_)
              case c1 => exact tCs_one _
              case c2 => rw [hwl]; unfold maxLen; omega
              case c3 => rw [hwl]; omega
              case c4 => have := HA3.out.below.size; simp; omega
              intro v' w5 hown hgr
              have h5 := HA3.out.app (t := B) (by rw [hwl]; exact hown) hgr
              have hq5 := h5.2 Q _ HQ.out
              have HA5 := Lib.hid (show LR w w5 P v' (itF s k) (wantF ts s (k + 1)) by rw [wantF_more hk, HX.out.2.1]; exact h5.1)
              clear h5 hown hgr d1 HQ
              have d0 := cell_at hq5 0 (v := .string ⟨ys.toArray⟩) rfl
              have d1 := cell_at hq5 1 (v := .int .i64 0) rfl
              have e0 := cell_at HA5.out.blk 0 (v := .string ⟨(itF s k).s.toArray⟩) rfl
              have e1 := cell_at HA5.out.blk 1 (v := .int .i64 (itF s k).e) rfl
              have f0 := r_frz HA5.out.blk 0
              have f1 := r_frz HA5.out.blk 1
              have HN := Lib.hid (HA5.out.set (q := ⟨ys, 0⟩) hwP)
              clear hq5
              go_upto_region 16 with fail
              go_region
              all_goals
                go_wp2_with fail
                go_roundw
                case rel =>
                  refine ⟨k + 1, ?_, by go_num, HGN, Lib.hid ?_⟩
                  · rw [HX.out.2.2]
                  · rw [HX.out.2.2]
                    first | exact HN.out.drew | exact HN.out | trace_state
                case measure => simp [intOf]; omega
            · have hwl : (wantF ts s k).length = ts.length := by rw [wantF_len]; omega
              obtain ⟨bv, qv, hvv, -, -⟩ := (SR.owns HA3.out.row).form
              rw [hwl, htn] at hvv
              subst hvv
              have hkn : ¬ (n : Int) ≤ k := by omega
              have hq5 := HQ.out
              have HA5 := Lib.hid (show LR w w3 P _ (itF s k) (wantF ts s (k + 1)) by rw [wantF_same (by omega)]; exact HA3.out)
              clear d1 HQ
              have d0 := cell_at hq5 0 (v := .string ⟨ys.toArray⟩) rfl
              have d1 := cell_at hq5 1 (v := .int .i64 0) rfl
              have e0 := cell_at HA5.out.blk 0 (v := .string ⟨(itF s k).s.toArray⟩) rfl
              have e1 := cell_at HA5.out.blk 1 (v := .int .i64 (itF s k).e) rfl
              have f0 := r_frz HA5.out.blk 0
              have f1 := r_frz HA5.out.blk 1
              have HN := Lib.hid (HA5.out.set (q := ⟨ys, 0⟩) hwP)
              clear hq5
              go_upto_region 16 with fail
              go_region
              all_goals
                go_wp2_with fail
                go_roundw
                case rel =>
                  refine ⟨k + 1, ?_, by go_num, HGN, Lib.hid ?_⟩
                  · rw [HX.out.2.2]
                  · rw [HX.out.2.2]
                    first | exact HN.out.drew | exact HN.out | trace_state
                case measure => simp [intOf]; omega
          · have hE1 : (ye != 0) = true := by simpa using hE
            have HF := Lib.hid (And.intro (SR.owns HA3.out.row) HA3.out.below)
            have HST := Lib.hid (show GoF s k ∧ StF s k from ⟨HG.out, .inr (by rw [HX.out.2.2]; exact hE)⟩)
            clear hE
            go_wp2_with fail
            go_meet
            exact ⟨k, by rw [HRR.out], rfl, HST, HF⟩
    case rest =>
      obtain ⟨k, rfl, rfl, HGS, HW⟩ := hcut
      have hge : ts.length ≤ k := st_more (tl := TL) HS.out (by rw [HSS.out]; exact HGS.out.2)
      have hsame : gotF s k = wantF ts s k := by
        have h := got_laid (tl := TL) HS.out hge
        rw [HSS.out] at h
        exact h
      have hwl : (wantF ts s k).length = k := by rw [wantF_len]; omega
      have hkl := (go_len HGS.out.1)
      have hW := HW.out
      rw [hwl] at hW
      obtain ⟨bv, qv, hvv, -, -⟩ := hW.1.form
      subst hvv
      obtain ⟨W2, hW2⟩ : ∃ W2, W2 = wc := ⟨_, rfl⟩
      subst hW2
      have HW2 := Lib.hid hW
      have cf := fall s W2 (by omega) (HT.out.below hW.2)
      clear hW HW HL
      obtain ⟨K, hK⟩ : ∃ K : Int, (s.length : Int) - ((itF s k).s.length : Int) = K := ⟨_, rfl⟩
      rw [hK]
      have HK := Lib.hid hK
      have HWL := Lib.hid (And.intro hwl (And.intro hge hsame))
      clear hK hwl hge hsame
      go_wp2_with fail
      refine Calls.mono cf ?_
      rintro e w3 ⟨k', gv, rfl, hg', hs', hsr, hb3⟩
      obtain rfl : k' = k := go_same hg' hs' HGS.out.1 HGS.out.2
      rw [HK.out]
      obtain ⟨gb, gq, hgv, -, -⟩ := hsr.form
      subst hgv
      rw [HWL.out.2.2] at hsr
      have HB3 := Lib.hid (HW2.out.2.trans (hb3.mono HW2.out.2.size))
      have HG3 := Lib.hid (And.intro hsr (HW2.out.1.below hb3))
      clear cf hg' hs' hsr hb3
      go_wp2_with fail
      refine Calls.mono (awake3 _ (HT.out.below HB3.out)) ?_
      rintro e w4 ⟨rfl, hb4⟩
      have HG4 := Lib.hid (And.intro (HG3.out.1.below (hb4.mono (Nat.le_refl _))) (HG3.out.2.below (hb4.mono (Nat.le_refl _))))
      have HB4 := Lib.hid (HB3.out.trans (hb4.mono HB3.out.size))
      clear hb4
      go_upto_block 4 with fail
      go_wp2_with fail
      go_loopw [16] (fun iv wr => ∃ j : Nat, j ≤ k' ∧ iv = .int .i64 j ∧ Hid (Below w4.heap.size w4 wr)) (fun iv _ => k' - (intOf iv).toNat)
      case atStart => exact ⟨0, Nat.zero_le _, rfl, Lib.hid (Below.refl _ _)⟩
      case round =>
        obtain ⟨j, hj, rfl, HJ⟩ := hrel
        by_cases hjk : j < k'
        · obtain ⟨b1, o1, t1, rfl, g1, e1⟩ := str_row (HG4.out.1.below HJ.out) j hjk
          obtain ⟨b2, o2, t2, rfl, g2, e2⟩ := str_row (HG4.out.2.below HJ.out) j hjk
          obtain rfl : t1 = t2 := Option.some.inj (e1.symm.trans e2)
          clear e1 e2
          go_upto_region 23 with fail
          go_quiet (fail)
          have HJ2 := Lib.hid (below_drewN' HJ.out nq)
          generalize wr.drewN nq = W5 at *
          clear g1 g2
          go_wp2_with fail
          go_roundw
          case rel => exact ⟨j + 1, by omega, by go_num, HJ2⟩
          case measure => simp [intOf]; omega
        · obtain rfl : j = k' := by omega
          have hkk : (wantF ts s j).length = j := HWL.out.1
          go_wp2_with fail
          go_ret
          exact ⟨rfl, HB4.out.trans (HJ.out.mono HB4.out.size)⟩
end Go.Proofs.YtbmjkieikaapfaaDoor
