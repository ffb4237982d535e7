/-
  tarnlaw51.near once more: also where its lists lie. Written by gentrm.py.
-/
import Derived.Test.YtkdmnhmlkcejfaaDoorTrI
namespace Go.Proofs.YtkdmnhmlkcejfaaDoor
open Go.RowKit
set_option linter.unusedVariables false
set_option linter.unusedSimpArgs false

/-- the act, made ready -/
structure FinM (w wx : World) (Y : Nat) (x : TA) (vm vc : Value) (odd : Int) : Prop where
  act : wx.heap[Y]? = some (.cells (actC x vm vc) 54)
  res : wx.heap[w.heap.size + 1]? = some (.cells zC 54)
  below : Below w.heap.size w wx
  keep : ∀ wz, Only (w.heap.size + 1) wx wz → ActAt x wz vm vc
  near : NearT x odd
  rows : 0 ≤ odd ∧ odd ≤ 63 → ∀ wz, Only (w.heap.size + 1) wx wz → RW wz w.heap.size x vm vc
theorem FinM.of_set {w w4 : World} {Y j : Nat} {t0 : TA} {vm vc v1 v2 v : Value} {cs : Array Value} {x : TA} {odd : Int} (h : NI w w4 Y t0 vm vc cs) (ha : (w4.setCell ⟨Y, j, none⟩ v).heap[Y]? = some (.cells (actC x v1 v2) 54)) (hr : RW w4 (Y + 1) x v1 v2) (hm : x.M.length ≤ 3) (hc : x.C.length ≤ 3) (hn : NearT x odd ∧ True) (hro : ¬ (0 ≤ odd ∧ odd ≤ 63)) : FinM w (w4.setCell ⟨Y, j, none⟩ v) Y x v1 v2 odd :=
  ⟨ha, (((Only.refl Y w4).set j v).block _ (lt_heap h.res) (by have := h.far; omega)).trans h.res, h.below.setCell (p := ⟨Y, j, none⟩) (by have := h.far; show w.heap.size ≤ Y; omega) _, fun wz ho => ((hr.kept ((Only.refl Y w4).set j v) (by omega)).kept ho (by have := h.far; omega)).actAt (by omega) (by omega), hn.1, fun q => absurd q hro⟩

set_option maxHeartbeats 40000000 in
set_option maxRecDepth 100000 in
theorem lnearM (t : TA) (odd : Int) (aM aC : Option Addr) (pM pC : Nat) (w : World) (hat : ActAt t w (.slice aM t.M.length pM) (.slice aC t.C.length pC)) (hw : WfT t) (ho : (Lit.int .i64 odd).wf = true) (hpc : t.C.length ≤ pC ∧ pC ≤ maxLen) :
    Calls Tryd.prog 17 #[.agg (actC t (.slice aM t.M.length pM) (.slice aC t.C.length pC)), .int .i64 odd] w fun e w' => (∃ x vm vc, e = .returned (.agg (actC x vm vc)) ∧ ActAt x w' vm vc ∧ NearT x odd ∧ (0 ≤ odd ∧ odd ≤ 63 → RW w' w.heap.size x vm vc)) ∧ Below w.heap.size w w' := by
  obtain ⟨i0, hi, hz0, hz1, hz2⟩ := info_parts info_i64T
  obtain ⟨y0, y1, yb, yz⟩ := two_newT w (.cells (actC t (.slice aM t.M.length pM) (.slice aC t.C.length pC)) 54) (.cells #[.int .i64 0, .int .i64 0, .int .i64 0, .int .i64 0, .int .i64 0, .int .i64 0, .int .i64 0, .string ⟨#[]⟩, .bool false, .slice none 0 0, .slice none 0 0, .string ⟨#[]⟩] 54)
  have HAT := Lib.hid hat
  have HW := Lib.hid hw
  obtain ⟨mn, hmn⟩ : ∃ n, t.M.length = n := ⟨_, rfl⟩
  obtain ⟨cn, hcn⟩ : ∃ n, t.C.length = n := ⟨_, rfl⟩
  have hmM : t.M.length ≤ 9223372036854775807 := by obtain ⟨a, cap, e, h, -⟩ := hat.1; exact h
  have hmC : t.C.length ≤ 9223372036854775807 := by obtain ⟨a, cap, e, h, -⟩ := hat.2; exact h
  rw [hmn] at HAT y0 y1 yb yz hmM ⊢
  rw [hcn] at HAT y0 y1 yb yz hmC ⊢
  rw [hcn] at hpc
  have HPC := Lib.hid hpc
  have HMN := Lib.hid (And.intro hmn hcn)
  clear hpc
  clear hat hw hmn hcn
  go_enter Tryd.func17, Tryd.ntmps17
  go_upto_region 1 with fail
  generalize (w.alloc (.cells (actC t (.slice aM mn pM) (.slice aC cn pC)) 54)).alloc (.cells #[.int .i64 0, .int .i64 0, .int .i64 0, .int .i64 0, .int .i64 0, .int .i64 0, .int .i64 0, .string ⟨#[]⟩, .bool false, .slice none 0 0, .slice none 0 0, .string ⟨#[]⟩] 54) = w1 at *
  have HI := Lib.hid (And.intro y0 (And.intro y1 (And.intro yb yz)))
  obtain ⟨d0, d1, d2, d3, d4, d5, d6, d7, d8, d9, d10, d11⟩ := actIn y0
  obtain ⟨tq, TS, ht1, ht2, ht3, ht4, ht5⟩ := cutT t.S 30 (by decide)
  have hms := HW.out.s
  unfold maxLen at hms
  obtain ⟨N, hN⟩ : ∃ N, w1.heap.size = N := ⟨_, rfl⟩
  have HN := Lib.hid hN
  have hNle : N ≤ w1.heap.size := Nat.le_of_eq hN.symm
  have hXN : w.heap.size < N := by omega
  have e15 := mask_15 t.W
  have e7 := mask_7 t.P
  have eA := mask_24 t.A
  have eB := mask_24 t.B
  have e63 := mask_63 odd
  have hsz : (⟨t.S.toArray⟩ : ByteArray).size = t.S.length := rfl
  obtain ⟨gW, hgW⟩ : ∃ g, t.W % 16 = g := ⟨_, rfl⟩
  obtain ⟨gP, hgP⟩ : ∃ g, t.P % 8 = g := ⟨_, rfl⟩
  obtain ⟨gA, hgA⟩ : ∃ g, t.A % 16777216 = g := ⟨_, rfl⟩
  obtain ⟨gB, hgB⟩ : ∃ g, t.B % 16777216 = g := ⟨_, rfl⟩
  obtain ⟨gO, hgO⟩ : ∃ g, odd % 64 = g := ⟨_, rfl⟩
  rw [hgW] at e15
  rw [hgP] at e7
  rw [hgA] at eA
  rw [hgB] at eB
  rw [hgO] at e63
  have HG := Lib.hid (show (0 ≤ gW ∧ gW ≤ 15) ∧ (0 ≤ gP ∧ gP ≤ 7) ∧ (0 ≤ gA ∧ gA ≤ 16777215) ∧ (0 ≤ gB ∧ gB ≤ 16777215) from by omega)
  have cN : ∀ w', N ≤ w'.heap.size → Calls Tryd.prog 34 #[.agg #[.int .i64 t.aW, .int .i64 t.aA, .int .i64 t.aL, .string ⟨t.D.toArray⟩, .bool t.u], .int .i64 8, .int .i64 gO] w' fun e w'' => (∃ (qW qA qL : Int) (qD : List UInt8) (qu : Bool), e = .returned (.agg #[.int .i64 qW, .int .i64 qA, .int .i64 qL, .string ⟨qD.toArray⟩, .bool qu]) ∧ Hid (Sm qW 3 ∧ Sm qA 2097120 ∧ Sm qL 128 ∧ qD.length ≤ 128)) ∧ Stays N w' w'' ∧ Below w'.heap.size w' w'' := fun w' h =>
    (anearT t.aW t.aA t.aL ⟨t.D.toArray⟩ t.u 8 gO w' (wf_of (HW.out.n _ (by simp [TA.nums]))) (wf_of (HW.out.n _ (by simp [TA.nums]))) (wf_of (HW.out.n _ (by simp [TA.nums]))) (by decide) (wf_of (by omega)) HW.out.d).mono fun e w'' hh => by
      obtain ⟨W, A, L, D, S, rfl, h1, h2, h3, h4, hb⟩ := hh
      have hD : D = ⟨D.data.toList.toArray⟩ := by cases D; simp
      exact ⟨⟨W, A, L, D.data.toList, S, by unfold askA; rw [← hD], Lib.hid ⟨h1, h2, h3, by show D.data.toList.length ≤ 128; rw [Array.length_toList]; exact h4⟩⟩, stays_of h hb, hb⟩
  clear y0 y1 yb yz hN hgW hgP hgA hgB hgO
  go_cut [5] (fun s wx => ∃ (Y : Nat) (qW qA qL : Int) (qD : List UInt8) (qu : Bool), s = .pointer (some ⟨Y, 0, none⟩) ∧ Hid (NI w wx Y t (.slice aM mn pM) (.slice aC cn pC) (actC ⟨gW, gP, gA, gB, qW, qA, qL, qD, qu, [], [], TS⟩ (.slice none 0 0) (.slice none 0 0))) ∧ Hid (Sm qW 3 ∧ Sm qA 2097120 ∧ Sm qL 128 ∧ qD.length ≤ 128))
  case first =>
    go_region_held3 (fun w' => N ≤ w'.heap.size ∧ Below N w1 w' ∧ ∀ b o, b < N → w'.cell? ⟨b, o, none⟩ = w1.cell? ⟨b, o, none⟩) (first | with_reducible exact keeps_start HN.out | with_reducible exact keeps_next (by assumption) (by assumption) | with_reducible exact keepsT_allocD (by assumption) | with_reducible exact keeps_alloc (by assumption) | with_reducible exact keepsT_set12 (by assumption) hNle | assumption | with_reducible exact keeps_alloc (keeps_next (keeps_start HN.out) (by assumption)) | trace_state) (first | (go_at_call 34; (with_reducible refine Calls.mono (cN _ ?hk) ?_); (case hk => first | exact (And.left (by assumption)) | (simp; omega)); rintro e wz ⟨⟨qW, qA, qL, qD, qu, rfl, HQ⟩, hz, hzz⟩; try (have y : wz.heap[w1.heap.size]? = some (.cells #[.int .i64 0, .int .i64 0, .int .i64 0, .int .i64 0, .int .i64 0, .int .i64 0, .int .i64 0, .string ⟨#[]⟩, .bool false, .slice none 0 0, .slice none 0 0, .string ⟨#[]⟩] 54) := below_at hzz (by simp) (heap_alloc_self w1.drew (.cells #[.int .i64 0, .int .i64 0, .int .i64 0, .int .i64 0, .int .i64 0, .int .i64 0, .int .i64 0, .string ⟨#[]⟩, .bool false, .slice none 0 0, .slice none 0 0, .string ⟨#[]⟩] 54)); obtain ⟨x0, x1, x2, x3, x4, x5, x6, x7, x8, x9, x10, x11⟩ := actIn (t := zT) (vm := .slice none 0 0) (vc := .slice none 0 0) y; have fy : ∀ j, wz.frozen? ⟨w1.heap.size, j, none⟩ = false := (fun j => by simp [World.frozen?, y]); have fy0 := fy 0; have fy1 := fy 1; have fy2 := fy 2; have fy3 := fy 3; have fy4 := fy 4; have fy5 := fy 5; have fy6 := fy 6; have fy7 := fy 7; have fy8 := fy 8; have fy9 := fy 9; have fy10 := fy 10; have fy11 := fy 11)))
    all_goals
      rename_i hfin
      have HF := Lib.hid (And.intro hfin.2.1 hz.1)
      clear hfin d0 d1 d2 d3 d4 d5 d6 d7 d8 d9 d10 d11
      go_wp2_with fail
      go_meet
      have ha := below_at HF.out.1 hXN HI.out.1
      have hr := below_at HF.out.1 (by have := HI.out.2.2.2; have := HN.out; omega) HI.out.2.1
      have hbw := HI.out.2.2.1.trans (HF.out.1.mono (by have := HI.out.2.2.2; have := HN.out; omega))
      have hsz := HI.out.2.2.2
      have hsn := HN.out
      have hsz2 := HF.out.2
      first
        | (have yy := y; exact ⟨_, _, _, _, _, _, rfl, Lib.hid ⟨ha, hr, (set12 (.int .i64 0) (.int .i64 0) (.int .i64 0) (.int .i64 0) (.int .i64 0) (.int .i64 0) (.int .i64 0) (.string ⟨#[]⟩) (.bool false) (.slice none 0 0) (.slice none 0 0) (.string ⟨#[]⟩) (.int .i64 gW) (.int .i64 gP) (.int .i64 gA) (.int .i64 gB) (.int .i64 qW) (.int .i64 qA) (.int .i64 qL) (.string ⟨qD.toArray⟩) (.bool qu) (.slice none 0 0) (.slice none 0 0) (.string ⟨TS.toArray⟩) y).1, by omega, hbw⟩, HQ⟩)
        | exact ⟨_, _, _, _, _, _, rfl, Lib.hid ⟨ha, hr, heap_alloc_self wz _, by omega, hbw⟩, HQ⟩
  case rest =>
    obtain ⟨Y, qW, qA, qL, qD, qu, rfl, HNI, HQ⟩ := hcut
    obtain ⟨w2, hw2⟩ : ∃ w2, w2 = wc := ⟨_, rfl⟩
    subst hw2
    clear d0 d1 d2 d3 d4 d5 d6 d7 d8 d9 d10 d11 cN e15 e7 eA eB e63 HI hNle HN hXN ht1 ht2 ht3 ht4 hsz
    have hfar := HNI.out.far
    have hYs := lt_heap HNI.out.act
    go_upto_block 0 with fail
    go_cut [] (fun wx => ∃ v l, Hid (NodesL l) ∧ wx.heap[Y]? = some (.cells (actC (⟨gW, gP, gA, gB, qW, qA, qL, qD, qu, [], [], TS⟩ : TA) v (.slice none 0 0)) 54) ∧ wx.ownsRow w2.heap.size 3 1 v l.length (nCells l) ∧ Only Y w2 wx)
    case first =>
      go_wp2_with fail
      go_loopw [6] (fun i wr => ∃ j : Nat, j ≤ mn ∧ j ≤ 3 ∧ i = .int .i64 j ∧ ∃ v l, l.length = j ∧ Hid (∀ x ∈ l, 0 ≤ x ∧ x ≤ 4) ∧ wr.heap[Y]? = some (.cells (actC (⟨gW, gP, gA, gB, qW, qA, qL, qD, qu, [], [], TS⟩ : TA) v (.slice none 0 0)) 54) ∧ wr.ownsRow w2.heap.size 3 1 v j (nCells l) ∧ Only Y w2 wr) (fun i _ => 4 - (intOf i).toNat)
      case atStart => exact ⟨0, Nat.zero_le _, Nat.zero_le _, rfl, (.slice none 0 0), [], rfl, Lib.hid (by simp), HNI.out.act, World.ownsRow_nil _ _ _ _, Only.refl _ _⟩
      case round =>
        obtain ⟨j, hj1, hj2, rfl, v, l, hl, HL4, hY, hown, hon⟩ := hrel
        have hXr := (hon.block w.heap.size (by omega) (by omega)).trans HNI.out.arg
        have hszr := hon.size
        have hbr : Below w.heap.size w wr := HNI.out.below.trans (hon.below (by omega) (by omega))
        by_cases hin : j < mn ∧ j < 3
        · obtain ⟨hi1, hi2⟩ := hin
          obtain ⟨a0, cap0, bb, off, hv, ha, hcell⟩ := (HAT.out.1).at_ hbr (j := j) (by have := HMN.out.1; omega)
          injection hv with hv1 hv2 hv3
          subst hv1
          subst ha
          have cx : wr.cell? ⟨w.heap.size, 9, none⟩ = some (.slice (some ⟨bb, off, none⟩) mn pM) := cell_at hXr 9 rfl
          have cy : wr.cell? ⟨Y, 9, none⟩ = some v := cell_at hY 9 rfl
          obtain ⟨x, hx⟩ : ∃ x, (t.M).getD j 0 = x := ⟨_, rfl⟩
          rw [hx] at hcell
          have h15 := mask_15 x
          obtain ⟨Z, hZ⟩ : ∃ Z, (x % 16).tmod 5 = Z := ⟨_, rfl⟩
          have hZ4 : 0 ≤ Z ∧ Z ≤ 4 := by
            rw [← hZ, Int.tmod_eq_emod_of_nonneg (by omega)]
            omega
          have HZ4 := Lib.hid hZ4
          have HW3 := Lib.hid hown
          have HYr := Lib.hid hY
          have HO := Lib.hid hon
          have hneY : some Y ≠ v.ownBlock := fun h => by have := (HW3.out.lt _ h.symm).1; omega
          have hYr : Y < wr.heap.size := lt_heap hY
          have ny : (wr.alloc (.cells #[.int .i64 Z] 3)).cell? ⟨Y, 9, none⟩ = some v := (World.cell?_alloc_lt wr _ ⟨Y, 9, none⟩ hYr).trans cy
          clear hx hY hown hon hXr hZ4 hv2 hv3
          go_upto_region 5 with fail
          go_region_law (first | (refine step_appT Tryd.underlying22 hi hz0 hz1 hz2 rfl (by decide) rfl (.tmp 45) (.tmp 53) rfl w2.heap.size _ _ _ rfl ((HW3.out.alloc (.cells #[.int .i64 Z] 3))) _ 1 [.int .i64 Z] rfl (SR.lit _ _ #[.int .i64 Z] 1 1 (by decide) rfl) (fun y hy => by simp at hy; subst hy; rfl) (by unfold maxLen; omega) (by omega) (by simp; omega) ?_; intro v2 w2 own2 hg2; obtain ⟨a2, p2, rfl⟩ := owns_formT own2; have y2 := grown_blockT hg2 rfl HYr.out hneY; have c2 : w2.cell? ⟨Y, 9, none⟩ = some v := (cell_at y2 9 rfl); have f2 : w2.frozen? ⟨Y, 9, none⟩ = false := (by simp [World.frozen?, y2])))
          all_goals
            have Y2 := Lib.hid y2
            have O2 := Lib.hid (own2)
            have G2 := Lib.hid (grown_onlyT hg2 ⟨rfl, rfl, rfl, rfl⟩ HO.out (fun q hq => (HW3.out.lt q hq).1))
            clear y2 c2 f2 own2 hg2 ny
            go_wp2_with fail
            go_roundw
            case rel =>
              refine ⟨j + 1, by omega, by omega, by go_num, _, l ++ [Z], by simp [hl], Lib.hid (fun y hy => ?_), heap_set_self Y2.out 9 _, by rw [← nCells_append]; exact owns_kept O2.out ((Only.refl _ _).set 9 _) (by omega), G2.out.set 9 _⟩
              rcases List.mem_append.1 hy with q | q
              · exact HL4.out y q
              · rw [List.mem_singleton.1 q]; exact HZ4.out
            case measure => simp [intOf]; omega
        · have FO := Lib.hid (And.intro hY (And.intro hown hon))
          have HLL := Lib.hid (show NodesL l from ⟨by omega, HL4.out⟩)
          have hout : ¬ (j < mn) ∨ (j < mn ∧ ¬ ((j : Int) < 3)) := by omega
          have cx : wr.cell? ⟨w.heap.size, 9, none⟩ = some (.slice aM mn pM) := cell_at hXr 9 rfl
          clear hY hown hon hXr hin
          rcases hout with ho1 | ⟨ho1, ho2⟩
          all_goals
            go_wp2_with fail
            go_meet
            exact ⟨v, l, HLL, FO.out.1, by rw [hl]; exact FO.out.2.1, FO.out.2.2⟩
    case rest =>
      obtain ⟨v1, lM, HLM, hY, hown1, hon1⟩ := hcut
      obtain ⟨w3, hw3⟩ : ∃ w3, w3 = wc := ⟨_, rfl⟩
      subst hw3
      have hz3 := hon1.size
      have HNI3 := Lib.hid (show NI w w3 Y t (.slice aM mn pM) (.slice aC cn pC) (actC (⟨gW, gP, gA, gB, qW, qA, qL, qD, qu, [], [], TS⟩ : TA) v1 (.slice none 0 0)) from ⟨(hon1.block _ (by omega) (by omega)).trans HNI.out.arg, (hon1.block _ (by omega) (by omega)).trans HNI.out.res, hY, hfar, HNI.out.below.trans (hon1.below (by omega) (by omega))⟩)
      have hYs3 := lt_heap hY
      have HR1 := Lib.hid hown1
      clear hY hown1 hon1 HNI
      go_upto_block 2 with fail
      go_cut [] (fun wx => ∃ v l, Hid (NodesL l) ∧ wx.heap[Y]? = some (.cells (actC (⟨gW, gP, gA, gB, qW, qA, qL, qD, qu, [], [], TS⟩ : TA) v1 v) 54) ∧ wx.ownsRow w3.heap.size 3 1 v l.length (nCells l) ∧ Only Y w3 wx)
      case first =>
        go_wp2_with fail
        go_loopw [7] (fun i wr => ∃ j : Nat, j ≤ cn ∧ j ≤ 3 ∧ i = .int .i64 j ∧ ∃ v l, l.length = j ∧ Hid (∀ x ∈ l, 0 ≤ x ∧ x ≤ 4) ∧ wr.heap[Y]? = some (.cells (actC (⟨gW, gP, gA, gB, qW, qA, qL, qD, qu, [], [], TS⟩ : TA) v1 v) 54) ∧ wr.ownsRow w3.heap.size 3 1 v j (nCells l) ∧ Only Y w3 wr) (fun i _ => 4 - (intOf i).toNat)
        case atStart => exact ⟨0, Nat.zero_le _, Nat.zero_le _, rfl, (.slice none 0 0), [], rfl, Lib.hid (by simp), HNI3.out.act, World.ownsRow_nil _ _ _ _, Only.refl _ _⟩
        case round =>
          obtain ⟨j, hj1, hj2, rfl, v, l, hl, HL4, hY, hown, hon⟩ := hrel
          have hXr := (hon.block w.heap.size (by omega) (by omega)).trans HNI3.out.arg
          have hszr := hon.size
          have hbr : Below w.heap.size w wr := HNI3.out.below.trans (hon.below (by omega) (by omega))
          by_cases hin : j < cn ∧ j < 3
          · obtain ⟨hi1, hi2⟩ := hin
            obtain ⟨a0, cap0, bb, off, hv, ha, hcell⟩ := (HAT.out.2).at_ hbr (j := j) (by have := HMN.out.2; omega)
            injection hv with hv1 hv2 hv3
            subst hv1
            subst ha
            have cx : wr.cell? ⟨w.heap.size, 10, none⟩ = some (.slice (some ⟨bb, off, none⟩) cn pC) := cell_at hXr 10 rfl
            have cy : wr.cell? ⟨Y, 10, none⟩ = some v := cell_at hY 10 rfl
            obtain ⟨x, hx⟩ : ∃ x, (t.C).getD j 0 = x := ⟨_, rfl⟩
            rw [hx] at hcell
            have h15 := mask_15 x
            obtain ⟨Z, hZ⟩ : ∃ Z, (x % 16).tmod 5 = Z := ⟨_, rfl⟩
            have hZ4 : 0 ≤ Z ∧ Z ≤ 4 := by
              rw [← hZ, Int.tmod_eq_emod_of_nonneg (by omega)]
              omega
            have HZ4 := Lib.hid hZ4
            have HW3 := Lib.hid hown
            have HYr := Lib.hid hY
            have HO := Lib.hid hon
            have hneY : some Y ≠ v.ownBlock := fun h => by have := (HW3.out.lt _ h.symm).1; omega
            have hYr : Y < wr.heap.size := lt_heap hY
            have ny : (wr.alloc (.cells #[.int .i64 Z] 3)).cell? ⟨Y, 10, none⟩ = some v := (World.cell?_alloc_lt wr _ ⟨Y, 10, none⟩ hYr).trans cy
            clear hx hY hown hon hXr hZ4 hv2 hv3
            go_upto_region 9 with fail
            go_region_law (first | (refine step_appT Tryd.underlying22 hi hz0 hz1 hz2 rfl (by decide) rfl (.tmp 68) (.tmp 76) rfl w3.heap.size _ _ _ rfl ((HW3.out.alloc (.cells #[.int .i64 Z] 3))) _ 1 [.int .i64 Z] rfl (SR.lit _ _ #[.int .i64 Z] 1 1 (by decide) rfl) (fun y hy => by simp at hy; subst hy; rfl) (by unfold maxLen; omega) (by omega) (by simp; omega) ?_; intro v2 w2 own2 hg2; obtain ⟨a2, p2, rfl⟩ := owns_formT own2; have y2 := grown_blockT hg2 rfl HYr.out hneY; have c2 : w2.cell? ⟨Y, 10, none⟩ = some v := (cell_at y2 10 rfl); have f2 : w2.frozen? ⟨Y, 10, none⟩ = false := (by simp [World.frozen?, y2])))
            all_goals
              have Y2 := Lib.hid y2
              have O2 := Lib.hid (own2)
              have G2 := Lib.hid (grown_onlyT hg2 ⟨rfl, rfl, rfl, rfl⟩ HO.out (fun q hq => (HW3.out.lt q hq).1))
              clear y2 c2 f2 own2 hg2 ny
              go_wp2_with fail
              go_roundw
              case rel =>
                refine ⟨j + 1, by omega, by omega, by go_num, _, l ++ [Z], by simp [hl], Lib.hid (fun y hy => ?_), heap_set_self Y2.out 10 _, by rw [← nCells_append]; exact owns_kept O2.out ((Only.refl _ _).set 10 _) (by omega), G2.out.set 10 _⟩
                rcases List.mem_append.1 hy with q | q
                · exact HL4.out y q
                · rw [List.mem_singleton.1 q]; exact HZ4.out
              case measure => simp [intOf]; omega
          · have FO := Lib.hid (And.intro hY (And.intro hown hon))
            have HLL := Lib.hid (show NodesL l from ⟨by omega, HL4.out⟩)
            have hout : ¬ (j < cn) ∨ (j < cn ∧ ¬ ((j : Int) < 3)) := by omega
            have cx : wr.cell? ⟨w.heap.size, 10, none⟩ = some (.slice aC cn pC) := cell_at hXr 10 rfl
            clear hY hown hon hXr hin
            rcases hout with ho1 | ⟨ho1, ho2⟩
            all_goals
              go_wp2_with fail
              go_meet
              exact ⟨v, l, HLL, FO.out.1, by rw [hl]; exact FO.out.2.1, FO.out.2.2⟩
      case rest =>
        obtain ⟨v2, lC, HLC, hY, hown2, hon2⟩ := hcut
        obtain ⟨w4, hw4⟩ : ∃ w4, w4 = wc := ⟨_, rfl⟩
        subst hw4
        have hz4 := hon2.size
        obtain ⟨a1, p1, hv1, -, -⟩ := (SR.owns HR1.out).form
        obtain ⟨a2, p2, hv2, -, -⟩ := (SR.owns hown2).form
        subst hv1 hv2
        have HNI4 := Lib.hid (show NI w w4 Y t (.slice aM mn pM) (.slice aC cn pC) (actC (⟨gW, gP, gA, gB, qW, qA, qL, qD, qu, [], [], TS⟩ : TA) (.slice a1 lM.length p1) (.slice a2 lC.length p2)) from ⟨(hon2.block _ (by omega) (by omega)).trans HNI3.out.arg, (hon2.block _ (by omega) (by omega)).trans HNI3.out.res, hY, hfar, HNI3.out.below.trans (hon2.below (by omega) (by omega))⟩)
        have R4 := Lib.hid (show RW w4 (Y + 1) (⟨gW, gP, gA, gB, qW, qA, qL, qD, qu, lM, lC, TS⟩ : TA) (.slice a1 lM.length p1) (.slice a2 lC.length p2) from ⟨owns_raise (owns_kept HR1.out hon2 (by omega)) (by omega), owns_raise hown2 (by omega)⟩)
        have HM4 := Lib.hid (show MayT (⟨gW, gP, gA, gB, qW, qA, qL, qD, qu, lM, lC, TS⟩ : TA) ∧ qD.length ≤ 128 ∧ TS.length ≤ 30 from by
          obtain ⟨⟨g1, g2⟩, ⟨g3, g4⟩, ⟨g5, g6⟩, g7, g8⟩ := HG.out
          obtain ⟨⟨q1, q2⟩, ⟨q3, q4⟩, ⟨q5, q6⟩, q7⟩ := HQ.out
          refine ⟨⟨?_, HLM.out, HLC.out, ?_⟩, q7, by omega⟩
          · intro x hx
            simp [TA.nums] at hx
            rcases hx with rfl | rfl | rfl | rfl | rfl | rfl | rfl <;> omega
          · show qD.length + TS.length ≤ 8192
            omega)
        have hlM := HLM.out.1
        have hlC := HLC.out.1
        have hYs4 := lt_heap hY
        clear hY hown2 hon2 HNI3 HR1 HLM HLC HG HQ ht5
        obtain ⟨K, hK⟩ : ∃ K, (odd / 64) % 32 = K := ⟨_, rfl⟩
        have e31 := mask_31 (odd / 64)
        rw [hK] at e31
        have HK := Lib.hid hK
        have hKr : 0 ≤ K ∧ K ≤ 31 := by omega
        have e63 := mask_63 odd
        obtain ⟨d0, d1, d2, d3, d4, d5, d6, d7, d8, d9, d10, d11⟩ := actIn HNI4.out.arg
        obtain ⟨x0, x1, x2, x3, x4, x5, x6, x7, x8, x9, x10, x11⟩ := actIn HNI4.out.act
        have fY : ∀ j, w4.frozen? ⟨Y, j, none⟩ = false := fun j => by have := HNI4.out.act; simp [World.frozen?, this]
        have f2 := fY 2
        have f5 := fY 5
        have f10 := fY 10
        have f11 := fY 11
        clear hK fY
        go_upto_block 4 with fail
        go_cut [] (fun wx => ∃ (x : TA) (a1 : Option Addr) (n1 p1 : Nat) (a2 : Option Addr) (n2 p2 : Nat), Hid (FinM w wx Y x (.slice a1 n1 p1) (.slice a2 n2 p2) odd))
        case first =>
          by_cases k1 : K = 1
          · subst k1
            have HF := Lib.hid (show FinM w (w4.setCell ⟨Y, 2, none⟩ (.int .i64 t.A)) Y ⟨gW, gP, t.A, gB, qW, qA, qL, qD, qu, lM, lC, TS⟩ (.slice a1 lM.length p1) (.slice a2 lC.length p2) odd from
              FinM.of_set HNI4.out (x := ⟨gW, gP, t.A, gB, qW, qA, qL, qD, qu, lM, lC, TS⟩) (heap_set_self HNI4.out.act 2 _) ⟨R4.out.m, R4.out.c⟩ (by omega) (by omega) ⟨⟨by
                have h := Puts.of_may HM4.out.1
                exact ⟨⟨by simp [TA.nums], fun z hz => by
                  have hA := (HW.out.n t.A (by simp [TA.nums])).2
                  have := h.n.2
                  simp [TA.nums] at hz this
                  rcases hz with rfl | rfl | rfl | rfl | rfl | rfl | rfl <;> omega⟩, h.m, h.c, h.d, h.s⟩, fun q => by have := HK.out; omega⟩, trivial⟩ (fun q => by have := HK.out; omega))
            clear d0 d1 d3 d4 d5 d6 d7 d8 d9 d10 d11
            go_wp2_with fail
            go_meet
            exact ⟨_, _, _, _, _, _, _, HF⟩
          · have k1b : (K == 1) = false := by simpa using k1
            by_cases k2 : K = 2
            · subst k2
              obtain ⟨k5, hk5⟩ : ∃ k5 : Nat, min (cn : Int) 5 = k5 := ⟨min cn 5, by omega⟩
              have hk1 : k5 ≤ cn := by omega
              have hk2 : k5 ≤ 5 := by omega
              have hcp := HPC.out.1
              have hcm := HPC.out.2
              unfold maxLen at hcm
              have hk3 : (k5 : Int) ≤ (pC : Int) := by omega
              have hl5 : (t.C.take k5).length = k5 := by rw [List.length_take]; have := HMN.out.2; omega
              have hY2 := heap_set_self HNI4.out.act 10 (.slice aC k5 pC)
              have hB4 : Below w.heap.size w (w4.setCell ⟨Y, 10, none⟩ (.slice aC k5 pC)) := HNI4.out.below.setCell (p := ⟨Y, 10, none⟩) (by show w.heap.size ≤ Y; omega) _
              have HF := Lib.hid (show FinM w (w4.setCell ⟨Y, 10, none⟩ (.slice aC k5 pC)) Y ⟨gW, gP, gA, gB, qW, qA, qL, qD, qu, lM, t.C.take k5, TS⟩ (.slice a1 lM.length p1) (.slice aC k5 pC) odd from
                ⟨hY2, (((Only.refl Y w4).set 10 (.slice aC k5 pC)).block _ (lt_heap HNI4.out.res) (by omega)).trans HNI4.out.res, hB4,
                 fun wz ho => ⟨Ints.owned (owns_kept (owns_kept R4.out.m ((Only.refl Y w4).set 10 (.slice aC k5 pC)) (by omega)) ho (by omega)) (by show lM.length ≤ _; omega), (Ints.front HAT.out.2 (k := k5) (n := k5) hl5.symm HMN.out.2.symm).below (hB4.trans (ho.below (by omega) (by have := lt_heap hY2; omega)))⟩,
                 ⟨⟨(Puts.of_may HM4.out.1).n, (Puts.of_may HM4.out.1).m, ⟨by show (t.C.take k5).length ≤ 1000; omega, fun z hz => (HW.out.c z (List.mem_of_mem_take hz)).2⟩, (Puts.of_may HM4.out.1).d, (Puts.of_may HM4.out.1).s⟩, fun q => by have := HK.out; omega⟩, fun q => by have := HK.out; omega⟩)
              have hYl := lt_heap HNI4.out.act
              clear d0 d1 d2 d3 d4 d5 d6 d7 d8 d9 d11 hY2 hB4 hl5
              go_wp2_with fail
              go_meet
              exact ⟨_, _, _, _, _, _, _, HF⟩
            · have k2b : (K == 2) = false := by simpa using k2
              by_cases k3 : K = 3
              · subst k3
                have HF := Lib.hid (show FinM w (w4.setCell ⟨Y, 5, none⟩ (.int .i64 t.aA)) Y ⟨gW, gP, gA, gB, qW, t.aA, qL, qD, qu, lM, lC, TS⟩ (.slice a1 lM.length p1) (.slice a2 lC.length p2) odd from
                  FinM.of_set HNI4.out (x := ⟨gW, gP, gA, gB, qW, t.aA, qL, qD, qu, lM, lC, TS⟩) (heap_set_self HNI4.out.act 5 _) ⟨R4.out.m, R4.out.c⟩ (by omega) (by omega) ⟨⟨by
                    have h := Puts.of_may HM4.out.1
                    exact ⟨⟨by simp [TA.nums], fun z hz => by
                      have hA := (HW.out.n t.aA (by simp [TA.nums])).2
                      have := h.n.2
                      simp [TA.nums] at hz this
                      rcases hz with rfl | rfl | rfl | rfl | rfl | rfl | rfl <;> omega⟩, h.m, h.c, h.d, h.s⟩, fun q => by have := HK.out; omega⟩, trivial⟩ (fun q => by have := HK.out; omega))
                clear d0 d1 d2 d3 d4 d6 d7 d8 d9 d10 d11
                go_wp2_with fail
                go_meet
                exact ⟨_, _, _, _, _, _, _, HF⟩
              · have k3b : (K == 3) = false := by simpa using k3
                by_cases k4 : K = 4
                · subst k4
                  obtain ⟨n, hn⟩ : ∃ n : Nat, (8150 : Int) + odd % 64 = n := ⟨(8150 + odd % 64).toNat, by omega⟩
                  have hn2 : n ≤ 8213 := by omega
                  obtain ⟨i8, hi8, hz80, hz81, hz82⟩ := info_parts info_u8
                  obtain ⟨w5, hmk, hown, hgr⟩ := run_make_full (P := Tryd.prog) (w := w4) w4.heap.size 76 5 i8 _ 1 Tryd.underlying76 hi8 hz80 hz81 .i64 .i64 n (by rw [hz82]; omega) (by unfold maxLen; omega) (Nat.le_refl _)
                  rw [mades_bT] at hown
                  have hcv := OwnB.string (P := Tryd.prog) (src := 76) (dst := 9) Tryd.underlying76 Tryd.underlying5 Tryd.underlying9 (OwnB.of_owns hown)
                  have hb5 : Below w4.heap.size w4 w5 := (Below.refl _ w4).grown hgr (Nat.le_refl _) (fun k e => by cases e)
                  have HNI5 := Lib.hid (show NI w w5 Y t (.slice aM mn pM) (.slice aC cn pC) _ from ⟨below_at hb5 (lt_heap HNI4.out.arg) HNI4.out.arg, below_at hb5 (lt_heap HNI4.out.res) HNI4.out.res, below_at hb5 (lt_heap HNI4.out.act) HNI4.out.act, hfar, HNI4.out.below.trans (hb5.mono (by omega))⟩)
                  have R5 := R4.out.below hb5
                  have HF := Lib.hid (show FinM w (w5.setCell ⟨Y, 11, none⟩ (.string ⟨(List.replicate n 0).toArray⟩)) Y ⟨gW, gP, gA, gB, qW, qA, qL, qD, qu, lM, lC, List.replicate n 0⟩ (.slice a1 lM.length p1) (.slice a2 lC.length p2) odd from
                    FinM.of_set HNI5.out (x := ⟨gW, gP, gA, gB, qW, qA, qL, qD, qu, lM, lC, List.replicate n 0⟩) (heap_set_self HNI5.out.act 11 _) ⟨R5.m, R5.c⟩ (by omega) (by omega) ⟨⟨by
                      have h := Puts.of_may HM4.out.1
                      exact ⟨h.n, h.m, h.c, h.d, by show (List.replicate n (0 : UInt8)).length ≤ 100000; simp; omega⟩, fun q => by have := HK.out; omega⟩, trivial⟩ (fun q => by have := HK.out; omega))
                  have y11 := cell_at HNI5.out.act 11 (v := .string ⟨TS.toArray⟩) rfl
                  have g11 : w5.frozen? ⟨Y, 11, none⟩ = false := by have := HNI5.out.act; simp [World.frozen?, this]
                  rw [← hn] at hmk
                  have HN := Lib.hid hn
                  have e63' : bits .and .i64 odd 63 = odd % 64 := e63
                  clear hown hgr hb5 R5 d0 d1 d2 d3 d4 d5 d6 d7 d8 d9 d10 d11 x0 x1 x2 x3 x4 x5 x6 x7 x8 x9 x10 x11 f2 f5 f10 f11 hn e63
                  go_wp2_with fail
                  go_meet
                  exact ⟨_, _, _, _, _, _, _, HF⟩
                · have k4b : (K == 4) = false := by simpa using k4
                  have HF := Lib.hid (show FinM w w4 Y (⟨gW, gP, gA, gB, qW, qA, qL, qD, qu, lM, lC, TS⟩ : TA) (.slice a1 lM.length p1) (.slice a2 lC.length p2) odd from ⟨HNI4.out.act, HNI4.out.res, HNI4.out.below, fun wz ho => (R4.out.kept ho (by omega)).actAt (by show lM.length ≤ _; omega) (by show lC.length ≤ _; omega), ⟨Puts.of_may HM4.out.1, fun _ => HM4.out⟩, fun _ wz ho => (R4.out.kept ho (by omega)).raise (by omega)⟩)
                  clear d0 d1 d2 d3 d4 d5 d6 d7 d8 d9 d10 d11 k1 k2 k3 k4
                  go_wp2_with fail
                  go_meet
                  exact ⟨_, _, _, _, _, _, _, HF⟩
        case rest =>
          obtain ⟨x, a1, n1, p1, a2, n2, p2, HF⟩ := hcut
          obtain ⟨w5, hw5⟩ : ∃ w5, w5 = wc := ⟨_, rfl⟩
          subst hw5
          clear d0 d1 d2 d3 d4 d5 d6 d7 d8 d9 d10 d11 x0 x1 x2 x3 x4 x5 x6 x7 x8 x9 x10 x11 f2 f5 f10 f11 e31 e63
          obtain ⟨x0, x1, x2, x3, x4, x5, x6, x7, x8, x9, x10, x11⟩ := actIn HF.out.act
          have hR : w5.heap[w.heap.size + 1]? = some (.cells #[.int .i64 0, .int .i64 0, .int .i64 0, .int .i64 0, .int .i64 0, .int .i64 0, .int .i64 0, .string ⟨#[]⟩, .bool false, .slice none 0 0, .slice none 0 0, .string ⟨#[]⟩] 54) := HF.out.res
          have z0 := cell_at hR 0 (v := (.int .i64 0)) rfl
          have z1 := cell_at hR 1 (v := (.int .i64 0)) rfl
          have z2 := cell_at hR 2 (v := (.int .i64 0)) rfl
          have z3 := cell_at hR 3 (v := (.int .i64 0)) rfl
          have z4 := cell_at hR 4 (v := (.int .i64 0)) rfl
          have z5 := cell_at hR 5 (v := (.int .i64 0)) rfl
          have z6 := cell_at hR 6 (v := (.int .i64 0)) rfl
          have z7 := cell_at hR 7 (v := (.string ⟨#[]⟩)) rfl
          have z8 := cell_at hR 8 (v := (.bool false)) rfl
          have z9 := cell_at hR 9 (v := (.slice none 0 0)) rfl
          have z10 := cell_at hR 10 (v := (.slice none 0 0)) rfl
          have z11 := cell_at hR 11 (v := (.string ⟨#[]⟩)) rfl
          have fzr : ∀ j, w5.frozen? ⟨w.heap.size + 1, j, none⟩ = false := fun j => by simp [World.frozen?, hR]
          have fz0 := fzr 0
          have fz1 := fzr 1
          have fz2 := fzr 2
          have fz3 := fzr 3
          have fz4 := fzr 4
          have fz5 := fzr 5
          have fz6 := fzr 6
          have fz7 := fzr 7
          have fz8 := fzr 8
          have fz9 := fzr 9
          have fz10 := fzr 10
          have fz11 := fzr 11
          have hch := set12 (.int .i64 0) (.int .i64 0) (.int .i64 0) (.int .i64 0) (.int .i64 0) (.int .i64 0) (.int .i64 0) (.string ⟨#[]⟩) (.bool false) (.slice none 0 0) (.slice none 0 0) (.string ⟨#[]⟩) (.int .i64 x.W) (.int .i64 x.P) (.int .i64 x.A) (.int .i64 x.B) (.int .i64 x.aW) (.int .i64 x.aA) (.int .i64 x.aL) (.string ⟨x.D.toArray⟩) (.bool x.u) (.slice a1 n1 p1) (.slice a2 n2 p2) (.string ⟨x.S.toArray⟩) hR
          have HCH := Lib.hid hch
          clear hch hR fzr
          go_wp2_with fail
          generalize ((((((((((((w5.setCell ⟨w.heap.size + 1, 0, none⟩ (.int .i64 x.W)).setCell ⟨w.heap.size + 1, 1, none⟩ (.int .i64 x.P)).setCell ⟨w.heap.size + 1, 2, none⟩ (.int .i64 x.A)).setCell ⟨w.heap.size + 1, 3, none⟩ (.int .i64 x.B)).setCell ⟨w.heap.size + 1, 4, none⟩ (.int .i64 x.aW)).setCell ⟨w.heap.size + 1, 5, none⟩ (.int .i64 x.aA)).setCell ⟨w.heap.size + 1, 6, none⟩ (.int .i64 x.aL)).setCell ⟨w.heap.size + 1, 7, none⟩ (.string ⟨x.D.toArray⟩)).setCell ⟨w.heap.size + 1, 8, none⟩ (.bool x.u)).setCell ⟨w.heap.size + 1, 9, none⟩ (.slice a1 n1 p1)).setCell ⟨w.heap.size + 1, 10, none⟩ (.slice a2 n2 p2)).setCell ⟨w.heap.size + 1, 11, none⟩ (.string ⟨x.S.toArray⟩)) = wf at *
          have fi := HCH.out.1
          have y0 := cell_at fi 0 (v := (.int .i64 x.W)) rfl
          have y1 := cell_at fi 1 (v := (.int .i64 x.P)) rfl
          have y2 := cell_at fi 2 (v := (.int .i64 x.A)) rfl
          have y3 := cell_at fi 3 (v := (.int .i64 x.B)) rfl
          have y4 := cell_at fi 4 (v := (.int .i64 x.aW)) rfl
          have y5 := cell_at fi 5 (v := (.int .i64 x.aA)) rfl
          have y6 := cell_at fi 6 (v := (.int .i64 x.aL)) rfl
          have y7 := cell_at fi 7 (v := (.string ⟨x.D.toArray⟩)) rfl
          have y8 := cell_at fi 8 (v := (.bool x.u)) rfl
          have y9 := cell_at fi 9 (v := (.slice a1 n1 p1)) rfl
          have y10 := cell_at fi 10 (v := (.slice a2 n2 p2)) rfl
          have y11 := cell_at fi 11 (v := (.string ⟨x.S.toArray⟩)) rfl
          clear fi
          refine bodyPost_ret (v := .agg #[(.int .i64 x.W), (.int .i64 x.P), (.int .i64 x.A), (.int .i64 x.B), (.int .i64 x.aW), (.int .i64 x.aA), (.int .i64 x.aL), (.string ⟨x.D.toArray⟩), (.bool x.u), (.slice a1 n1 p1), (.slice a2 n2 p2), (.string ⟨x.S.toArray⟩)]) (by simp [results, Tryd.results17, go_sem, y0, y1, y2, y3, y4, y5, y6, y7, y8, y9, y10, y11]) rfl ?_
          exact ⟨⟨x, _, _, rfl, HF.out.keep wf HCH.out.2, HF.out.near, fun q => HF.out.rows q wf HCH.out.2⟩, HF.out.below.trans (HCH.out.2.below (by omega) (Nat.le_of_lt (Nat.lt_of_succ_lt (lt_heap HF.out.res))))⟩
end Go.Proofs.YtkdmnhmlkcejfaaDoor
