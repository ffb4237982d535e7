/-
  LeadDecides' walk.
-/
import Derived.Test.YtadejhlljdcocaaLeadE
namespace Go.Proofs.Ytadejhlljdcocaa
open Go.RowKit Go.Sort
set_option linter.unusedVariables false
set_option linter.unusedSimpArgs false

theorem flipL2 {P : Program} {f : FuncId} {args : Array Value} {w : World} {v : Value} (h : Calls P f args w fun e w' => e = .returned v ∧ w = w') : Calls P f args w fun e w' => e = .returned v ∧ w' = w := h.mono fun _ _ h => ⟨h.1, h.2.symm⟩
theorem ldecN (term was : Int) (g : Nat) (w : World) : Calls Try.prog 28 #[.pointer none, .pointer (some ⟨g, 0, none⟩), .int .i64 term, .int .i64 was] w fun e w' => e = .returned (.int .i64 was) ∧ w = w' := by
  go_enter Try.func28, Try.ntmps28
  go_wp2_with fail
  go_ret
  exact ⟨rfl, rfl⟩
theorem eCells_lit (T : Int) (w : World) : SR (w.alloc (.cells #[.int .i64 T, .int .i64 0, .int .i64 0, .int .i64 0, .int .i64 0, .slice none 0 0, .slice none 0 0] 35)) (.slice (some ⟨w.heap.size, 0, none⟩) 1 1) 7 1 (eCells [T]) := SR.lit w 35 (entZ T) 7 1 (by decide) rfl
theorem owns_only {w w' : World} {a base n size : Nat} {v : Value} {xs : List Value} {M X : Nat → Int} (h : w.ownsRow base 35 size v n xs) (ho : OnlyA a w w') (hl : LeadAt w a M X) : w'.ownsRow base 35 size v n xs :=
  h.kept ho.grown (.inr (row_otherE h hl (by decide)))
/-- the second loop: what each said -/
structure YL (wb wr : World) (a g : Nat) (v : Value) (ts : List Int) (A : Nat → Int) (k : Nat) (M X : Nat → Int) : Prop where
  lead : LeadAt wr a M X
  log : LogZ wr g g v ts
  below : Below wb.heap.size wb wr
  ha : wb.heap.size ≤ a
  m : ∀ i, i < 3 → M i = if i < k then A i else 0
  x : ∀ i, i < 3 → 1 ≤ X i ∧ X i ≤ 100
theorem YL.step {wb wr w' : World} {a g : Nat} {v : Value} {ts : List Int} {A : Nat → Int} {k : Nat} {M X : Nat → Int} (h : YL wb wr a g v ts A k M X) (hk : k < 3) (hA : 0 ≤ A k ∧ A k ≤ 31) (hl : LeadAt w' a (yesM M k (A k)) (yesX M X k (A k))) (ho : OnlyA a wr w') :
    YL wb w' a g v ts A (k + 1) (yesM M k (A k)) (yesX M X k (A k)) := by
  have hmk := h.m k hk
  rw [if_neg (by omega)] at hmk
  refine ⟨hl, h.log.only ho h.lead, ho.below h.below h.ha, h.ha, fun i hi => ?_, fun i hi => ?_⟩
  · have hmi := h.m i hi
    unfold yesM
    split
    · rw [hmi]
      by_cases e : i = k
      · subst e
        rw [if_neg (by omega), if_pos (by omega)]
        omega
      · by_cases hlt : i < k
        · rw [if_pos hlt, if_pos (by omega)]
        · rw [if_neg hlt, if_neg (by omega)]
    · unfold updL
      by_cases e : i = k
      · subst e
        rw [if_pos rfl, if_pos (by omega)]
      · rw [if_neg e, hmi]
        by_cases hlt : i < k
        · rw [if_pos hlt, if_pos (by omega)]
        · rw [if_neg hlt, if_neg (by omega)]
  · have hxi := h.x i hi
    unfold yesX
    split
    · exact hxi
    · unfold updL
      split
      · subst_vars
        have h1 := le_maxI_r (X i) (A i + 1)
        have h2 : maxI (X i) (A i + 1) ≤ 100 := maxI_le (by omega) (by omega)
        omega
      · exact hxi
set_option maxHeartbeats 6400000 in
set_option maxRecDepth 400000 in
theorem leaddecides_law (c : Array Value) (ta : Option Addr) (len cap : Nat) (zs : List Int) (was : Int) (w : World) (hc : Fits w (Sh.rep (.int .i64) 3) c.toList) (hr : RowOf .i64 w ta len cap zs) (_hw : (Lit.int .i64 was).wf = true) :
    Calls Try.prog 5 #[.agg c, .slice ta len cap, .int .i64 was] w fun e w' => e = .returned (.bool true) ∧ Below w.heap.size w w' := by
  obtain ⟨u, rfl⟩ := fits_ints3 hc
  obtain ⟨hsr, hzl⟩ := SR.row hr
  obtain ⟨i0, hi, hz0, hz1, hz2⟩ := info_parts einfo
  have hcap : len ≤ cap ∧ cap ≤ maxLen := by
    obtain ⟨a', cap', he, h1, h2, _⟩ := hsr
    injection he with _ _ e3
    subst e3
    exact ⟨h1, h2⟩
  obtain ⟨hlc, hcm⟩ := hcap
  unfold maxLen at hcm
  have HSR := Lib.hid hsr
  have hx0 := heap_alloc_self w (.cells (arr3 u) 44)
  have hb0 := (Below.refl w.heap.size w).alloc (Nat.le_refl _) (.cells (arr3 u) 44)
  clear hc hr hsr hzl
  unfold arr3 at *
  go_enter Try.func5, Try.ntmps5
  go_upto_region 1 with fail
  generalize w.alloc (.cells #[.int .i64 (u 0), .int .i64 (u 1), .int .i64 (u 2)] 44) = wb at *
  have H0 := Lib.hid (And.intro hx0 hb0)
  have HT0 := Lib.hid (show TL wb (wb.alloc (.cells #[] 35)) (.slice (some ⟨wb.heap.size, 0, none⟩) 0 0) 0 1 [] from ⟨rfl, by simp, by decide, by decide, World.ownsRow_lit (base := wb.heap.size) (e := 35) (size := 7) wb #[] 0 (Nat.le_refl _) (by decide) rfl, (Below.refl _ _).alloc (Nat.le_refl _) _⟩)
  clear hx0 hb0
  go_wp2_with fail
  go_loopw [7, 8, 9] (fun l t i wr => ∃ (j : Nat) (T : Int) (ts : List Int), j ≤ len ∧ j ≤ 30 ∧ i = .int .i64 j ∧ t = .int .i64 T ∧ Hid (TL wb wr l j T ts)) (fun _ _ i _ => 30 - (intOf i).toNat)
  case atStart => exact ⟨0, 1, [], Nat.zero_le _, Nat.zero_le _, rfl, rfl, HT0⟩
  case round =>
    obtain ⟨j, T, ts, hj1, hj2, rfl, rfl, HR⟩ := hrel
    clear HT0
    obtain ⟨q, hq⟩ : ∃ q, (decide (j < len) && decide (j < 30)) = q := ⟨_, rfl⟩
    go_upto_region 3 with fail
    go_cut [28] (fun s wx => s = .bool q ∧ wx = wr)
    case first =>
      by_cases q0 : j < len
      · by_cases q1 : j < 30
        · obtain rfl : q = true := by rw [← hq]; simp [q0, q1]
          have q2 : decide ((j : Int) < 30) = true := decide_eq_true (by omega)
          clear hq
          go_wp2_with fail
          go_meet
          exact ⟨rfl, rfl⟩
        · obtain rfl : q = false := by rw [← hq]; simp; omega
          have q2 : decide ((j : Int) < 30) = false := decide_eq_false (by omega)
          clear hq
          go_wp2_with fail
          go_meet
          exact ⟨rfl, rfl⟩
      · obtain rfl : q = false := by rw [← hq]; simp; omega
        clear hq
        go_wp2_with fail
        go_meet
        exact ⟨rfl, rfl⟩
    obtain ⟨rfl, rfl⟩ := hcut
    obtain ⟨W0, hW0⟩ : ∃ W0, W0 = wc := ⟨_, rfl⟩
    subst hW0
    cases q
    rotate_left
    · have hin : j < len ∧ j < 30 := by simpa using hq
      clear hq
      obtain ⟨hi1, hi2⟩ := hin
      obtain ⟨b, off, rfl, hbl, hcell⟩ := HSR.out.int (by omega)
      have c0 : W0.cell? ⟨b, off + j, none⟩ = some (.int .i64 ((zs.take len).getD j 0)) := by
        have h1 := hcell j hi1
        have h2 := H0.out.2
        rw [HR.out.below.cell (p := ⟨b, off + j, none⟩) (Nat.lt_of_lt_of_le hbl h2.size), h2.cell (p := ⟨b, off + j, none⟩) hbl]
        exact h1
      obtain ⟨z, hz⟩ : ∃ z, (zs.take len).getD j 0 = z := ⟨_, rfl⟩
      rw [hz] at c0
      have hy := mask1L z
      have hy2 : 0 ≤ z % 2 ∧ z % 2 ≤ 1 := by omega
      rw [← hy] at hy2
      obtain ⟨Z, hZ⟩ : ∃ Z, bits .and .i64 z 1 = Z := ⟨_, rfl⟩
      rw [hZ] at hy2
      obtain ⟨hZ0, hZ1⟩ := hy2
      have t1 := HR.out.t1
      have tj := HR.out.tj
      clear hcell hz hy
      go_upto_region 6 with fail
      have HZ := Lib.hid hZ
      clear hZ c0
      obtain ⟨T', hT'⟩ : ∃ T', T + Z = T' := ⟨_, rfl⟩
      have ht1 : 1 ≤ T' := by omega
      have htj : T' ≤ (j : Int) + 2 := by omega
      rw [hT']
      have HT' := Lib.hid hT'
      clear hT'
      obtain ⟨la, lc, rfl⟩ := owns_form3 HR.out.own
      have hws := HR.out.below.size
      go_wp2_with (at_builtin; refine wp_app Try.underlying22 hi hz0 hz1 hz2 rfl (by decide) rfl (.tmp 38) (.tmp 41) rfl wb.heap.size _ j (eCells ts) rfl (HR.out.own.alloc _) _ 1 (eCells [T']) rfl (eCells_lit T' _) ?c1 ?c2 ?c3 ?c4 ?_)
      case c1 => exact eCells_one _
      case c2 => unfold maxLen; omega
      case c3 => omega
      case c4 => simp; omega
      intro v' w9 hown hgr
      have HF := Lib.hid (show TL wb w9 v' (j + 1) T' (ts ++ [T']) from ⟨by simp [HR.out.len], by
          intro t ht
          rcases List.mem_append.1 ht with h | h
          · exact HR.out.one t h
          · simp at h; subst h; omega, ht1, by omega, by rw [← eCells_append]; exact hown, below_app (HR.out.below.alloc hws _) hgr (HR.out.own.alloc _) (Nat.le_refl _) (by simp; omega)⟩)
      clear hown hgr
      go_wp2_with fail
      go_roundw
      case rel => exact ⟨j + 1, T', _, by omega, by omega, by go_num, rfl, HF⟩
      case measure => simp [intOf]; omega
    · clear hq
      obtain ⟨la, lc, rfl⟩ := owns_form3 HR.out.own
      have t1 := HR.out.t1
      have tj := HR.out.tj
      clear HSR
      have hone := HR.out.one
      have hlen := HR.out.len
      have cn := rnewZ ts (fun t ht => ⟨(hone t ht).1, by have := (hone t ht).2; omega⟩) (by omega) W0 _ (by rw [hlen]; exact SR.owns HR.out.own)
      have cl := fun w' => lnew 0 (by decide) (by decide) w'
      have HJ := Lib.hid (And.intro hlen hone)
      clear hlen hone
      go_wp2_with fail
      refine Calls.mono cn ?_
      rintro e w1 ⟨v, rfl, hL, hb1⟩
      have HB1 := Lib.hid (HR.out.below.trans (hb1.mono HR.out.below.size))
      have HL := Lib.hid hL
      have hgw : wb.heap.size ≤ W0.heap.size := HR.out.below.size
      obtain ⟨g, hg⟩ : ∃ g, W0.heap.size = g := ⟨_, rfl⟩
      have HRO := Lib.hid (owns_below HR.out.own hb1)
      rw [hg] at HL hgw ⊢
      clear hL hb1 hg cn HR
      go_wp2_with fail
      refine Calls.mono (cl _) ?_
      rintro e w2 ⟨rfl, hA2, hb2⟩
      have hB2 := HB1.out.trans (hb2.mono HB1.out.size)
      have hY0 : YL wb w2 w1.heap.size g v ts (fun i => bits .and .i64 (u i) 31) 0 (fun _ => 0) (fun _ => 0 + 1) := ⟨hA2, HL.out.below hb2, hB2, HB1.out.size, fun i _ => rfl, fun i _ => ⟨by decide, by decide⟩⟩
      have HRO2 := Lib.hid (owns_below HRO.out hb2)
      have hAb : ∀ k, 0 ≤ bits .and .i64 (u k) 31 ∧ bits .and .i64 (u k) 31 ≤ 31 := fun k => by rw [mask31]; omega
      obtain ⟨A, hAe⟩ : ∃ A : Nat → Int, (fun i => bits .and .i64 (u i) 31) = A := ⟨_, rfl⟩
      have hAk : ∀ k, bits .and .i64 (u k) 31 = A k := fun k => by rw [← hAe]
      simp only [hAk] at hAb
      rw [hAe] at hY0
      obtain ⟨a, ha⟩ : ∃ a, w1.heap.size = a := ⟨_, rfl⟩
      rw [ha] at hY0 ⊢
      have HY0 := Lib.hid hY0
      have HAK := Lib.hid hAk
      have HAB := Lib.hid hAb
      have HW2 := Lib.hid hB2
      clear hA2 hb2 hB2 hY0 hAe hAk hAb ha cl
      go_wp2_with fail
      go_loopw [12] (fun k wr => ∃ (x : Nat) (M X : Nat → Int), x ≤ 3 ∧ k = .int .i64 x ∧ Hid (YL wb wr a g v ts A x M X ∧ Below w2.heap.size w2 w2 ∧ wr.ownsRow wb.heap.size 35 7 (.slice la j lc) j (eCells ts))) (fun k _ => 3 - (intOf k).toNat)
      case atStart => exact ⟨0, _, _, by decide, rfl, Lib.hid ⟨HY0.out, Below.refl _ _, HRO2.out⟩⟩
      case round =>
        obtain ⟨x, M, X, hx3, rfl, HY⟩ := hrel
        clear HY0 HRO2
        by_cases hlt : x < 3
        · have c0 : wr.cell? ⟨w.heap.size, x, none⟩ = some (.int .i64 (u x)) := by
            have h1 : wb.cell? ⟨w.heap.size, x, none⟩ = some (.int .i64 (u x)) := cell_at H0.out.1 x (arr3_at u x hlt)
            rw [HY.out.1.below.cell (p := ⟨w.heap.size, x, none⟩) (lt_heap H0.out.1)]
            exact h1
          have cy := lyes_in x hlt (A x) a wr M X HY.out.1.lead (HAB.out x).1 (by have := (HAB.out x).2; omega) (by have := HY.out.1.x x hlt; omega)
          have hbx := HAK.out x
          go_wp2_with fail
          refine Calls.mono cy ?_
          rintro e w4 ⟨rfl, hl4, ho4⟩
          have HF := Lib.hid (show YL wb w4 a g v ts A (x + 1) _ _ ∧ Below w2.heap.size w2 w2 ∧ w4.ownsRow wb.heap.size 35 7 (.slice la j lc) j (eCells ts) from ⟨HY.out.1.step hlt (HAB.out x) hl4 ho4, Below.refl _ _, owns_only HY.out.2.2 ho4 HY.out.1.lead⟩)
          clear hl4 ho4 cy hbx
          go_wp2_with fail
          go_roundw
          case rel => exact ⟨x + 1, _, _, by omega, by go_num, HF⟩
          case measure => simp [intOf]; omega
        · obtain rfl : x = 3 := by omega
          have hmed : med3 M = med3 A := med3_eq fun i hi => by rw [HY.out.1.m i hi, if_pos hi]
          have hmb := med3_in A 0 31 (fun i _ => HAB.out i)
          obtain ⟨W3, hW3⟩ : ∃ W3, W3 = wr := ⟨_, rfl⟩
          subst hW3
          have hwm : 0 ≤ bits .and .i64 was 31 ∧ bits .and .i64 was 31 ≤ 31 := by rw [mask31]; omega
          obtain ⟨wv, hwv⟩ : ∃ wv, bits .and .i64 was 31 = wv := ⟨_, rfl⟩
          rw [hwv] at hwm
          obtain ⟨hwv0, hwv1⟩ := hwm
          obtain ⟨D, hD⟩ : ∃ D, decZ M ts T wv = D := ⟨_, rfl⟩
          have cdx := ldecided T wv W3 a g g M X v ts HY.out.1.lead HY.out.1.log (by have := HJ.out.1; omega) (fun i hi => by rw [HY.out.1.m i hi, if_pos hi]; have := HAB.out i; omega)
          rw [hD] at cdx
          have HDM := Lib.hid hD
          have b32 := bestN_32 A hmb
          unfold decZ at hD
          rw [hmed] at hD
          obtain ⟨Q, hQ⟩ : ∃ Q, med3 A = Q := ⟨_, rfl⟩
          rw [hQ] at hD hmb b32
          obtain ⟨hQ0, hQ1⟩ := hmb
          have HD := Lib.hid hD
          have HB32 := Lib.hid b32
          have HCD := Lib.hid cdx
          clear hD b32 hmed hQ cdx HL HRO
          go_upto_region 13 with fail
          have HWV := Lib.hid hwv
          clear hwv
          go_wp2_with fail
          go_loopw [14, 15] (fun best n wx => ∃ y : Nat, y ≤ 32 ∧ n = .int .i64 y ∧ best = .int .i64 (bestN A y) ∧ wx = W3) (fun _ n _ => 32 - (intOf n).toNat)
          case atStart => exact ⟨0, by decide, rfl, rfl, rfl⟩
          case round =>
            obtain ⟨y, hy, rfl, rfl, hw3⟩ := hrel
            have hw3' := hw3.symm
            subst hw3'
            by_cases hy32 : y < 32
            · go_wp2_with fail
              obtain ⟨Bt, hBt⟩ : ∃ Bt, bestN A y = Bt := ⟨_, rfl⟩
              rw [hBt]
              have HBt := Lib.hid hBt
              clear hBt
              go_loopw [16, 17] (fun many k wx => ∃ z : Nat, z ≤ 3 ∧ k = .int .i64 z ∧ many = .int .i64 (geN A y z) ∧ wx = W3) (fun _ k _ => 3 - (intOf k).toNat)
              case atStart => exact ⟨0, by decide, rfl, rfl, rfl⟩
              case round =>
                obtain ⟨z, hz, rfl, rfl, hw4⟩ := hrel
                have hw4' := hw4.symm
                subst hw4'
                obtain ⟨gn0, gn1⟩ := geN_le A y z
                by_cases hz3 : z < 3
                · have c0 : W3.cell? ⟨w.heap.size, z, none⟩ = some (.int .i64 (u z)) := by
                    have h1 : wb.cell? ⟨w.heap.size, z, none⟩ = some (.int .i64 (u z)) := cell_at H0.out.1 z (arr3_at u z hz3)
                    rw [HY.out.1.below.cell (p := ⟨w.heap.size, z, none⟩) (lt_heap H0.out.1)]
                    exact h1
                  have hbx := HAK.out z
                  have hgs : geN A y (z + 1) = geN A y z + if (y : Int) ≤ A z then 1 else 0 := rfl
                  have HGS := Lib.hid hgs
                  obtain ⟨G, hG⟩ : ∃ G, geN A y z = G := ⟨_, rfl⟩
                  rw [hG] at HGS gn0 gn1
                  rw [hG]
                  obtain ⟨Az, hAz⟩ : ∃ Az, A z = Az := ⟨_, rfl⟩
                  rw [hAz] at HGS hbx
                  clear hgs hG hAz
                  by_cases hge : (y : Int) ≤ Az
                  · go_wp2_with fail
                    go_roundw
                    case rel => exact ⟨z + 1, by omega, by go_num, by rw [HGS.out, if_pos hge], trivial⟩
                    case measure => simp [intOf]; omega
                  · go_wp2_with fail
                    go_roundw
                    case rel => exact ⟨z + 1, by omega, by go_num, by rw [HGS.out, if_neg hge, Int.add_zero], trivial⟩
                    case measure => simp [intOf]; omega
                · obtain rfl : z = 3 := by omega
                  have hbs : bestN A (y + 1) = if 2 ≤ geN A y 3 then (y : Int) else bestN A y := rfl
                  rw [HBt.out] at hbs
                  have HBS := Lib.hid hbs
                  obtain ⟨G, hG⟩ : ∃ G, geN A y 3 = G := ⟨_, rfl⟩
                  rw [hG] at HBS
                  rw [hG]
                  clear hbs hG gn0 gn1
                  by_cases hge : 2 ≤ G
                  · go_wp2_with fail
                    go_roundw
                    case rel => exact ⟨y + 1, by omega, by simp, by rw [HBS.out, if_pos hge]⟩
                    case measure => simp [intOf]; omega
                  · go_wp2_with fail
                    go_roundw
                    case rel => exact ⟨y + 1, by omega, by simp, by rw [HBS.out, if_neg (by omega)]⟩
                    case measure => simp [intOf]; omega
            · obtain rfl : y = 32 := by omega
              rw [HB32.out]
              obtain ⟨Bc, hBc⟩ : ∃ Bc, (decide (wv < Q) && (decide (Q ≤ j) && decide (termZ ts Q = T))) = Bc := ⟨_, rfl⟩
              go_upto_region 26 with fail
              go_cut [97] (fun s wx => s = .bool Bc ∧ wx = W3)
              case first =>
                by_cases h1 : wv < Q
                · by_cases h2 : Q ≤ j
                  · obtain ⟨k, hk⟩ : ∃ k : Nat, Q - 1 = k := ⟨(Q - 1).toNat, by omega⟩
                    have hkj : k < j := by omega
                    have htz : termZ ts Q = ts.getD k 0 := by unfold termZ; rw [if_pos (by omega), show Q.toNat - 1 = k by omega]
                    have hs := SR.owns HY.out.2.2
                    obtain ⟨a', cap', he, h3, h4, h5, h6⟩ := hs
                    injection he with e1 e2 e3
                    subst e1 e3
                    obtain ⟨b, off, rfl, hbl, hcc⟩ := h6.resolve_left (by omega)
                    have hkl : k < ts.length := by have := HJ.out.1; omega
                    have ck := hcc (k * 7) (.int .i64 (ts.getD k 0)) (by
                      have := eCells_get ts k (ts.getD k 0) (by rw [List.getD_eq_getElem?_getD, List.getElem?_eq_getElem hkl]; rfl) 0 (.int .i64 (ts.getD k 0)) rfl (by decide)
                      simpa using this)
                    rw [htz] at hBc
                    obtain ⟨Tk, hTk⟩ : ∃ Tk, ts.getD k 0 = Tk := ⟨_, rfl⟩
                    rw [hTk] at ck hBc
                    unfold maxLen at h4
                    clear hcc htz hkl h5 h6 hTk
                    by_cases h7 : Tk = T
                    · obtain rfl : Bc = true := by rw [← hBc]; simp [h1, h2, h7]
                      have h8 : (Tk == T) = true := by simpa using h7
                      have h9 : decide (Q ≤ (j : Int)) = true := decide_eq_true h2
                      subst h7
                      clear hBc
                      go_wp2_with fail
                      go_meet
                      exact ⟨rfl, rfl⟩
                    · obtain rfl : Bc = false := by rw [← hBc]; simp [h7]
                      have h8 : (Tk == T) = false := by simpa using h7
                      have h9 : decide (Q ≤ (j : Int)) = true := decide_eq_true h2
                      clear hBc
                      go_wp2_with fail
                      go_meet
                      exact ⟨rfl, rfl⟩
                  · obtain rfl : Bc = false := by rw [← hBc]; simp [h2]
                    have h9 : decide (Q ≤ (j : Int)) = false := decide_eq_false h2
                    clear hBc
                    go_wp2_with fail
                    go_meet
                    exact ⟨rfl, rfl⟩
                · obtain rfl : Bc = false := by rw [← hBc]; simp [h1]
                  clear hBc
                  go_wp2_with fail
                  go_meet
                  exact ⟨rfl, rfl⟩
              case rest =>
                obtain ⟨rfl, hw5⟩ := hcut
                have hw5' := hw5.symm
                subst hw5'
                have hDB : D = if Bc = true then Q else wv := by
                  rw [← HD.out, ← hBc]
                  by_cases h1 : wv < Q
                  · by_cases h3 : termZ ts Q = T
                    · by_cases h2 : Q ≤ (j : Int)
                      · simp only [h1, h2, h3, decide_true, Bool.and_self, if_true]
                        rw [if_neg (by simp; omega)]
                      · exfalso
                        have : termZ ts Q = 0 := by
                          unfold termZ
                          rw [if_pos (by omega), List.getD_eq_getElem?_getD, List.getElem?_eq_none (by have := HJ.out.1; omega)]
                          rfl
                        omega
                    · rw [if_pos (.inr (.inr h3))]
                      simp [h3]
                  · rw [if_pos (.inl (by omega))]
                    simp [h1]
                have HBB := Lib.hid hBc
                clear hBc
                have HFB := Lib.hid (show Below w.heap.size w W3 from H0.out.2.trans (HY.out.1.below.mono H0.out.2.size))
                have ca := fun w => awake18 w
                cases Bc
                · have e : wv = D := hDB.symm
                  clear hDB
                  subst e
                  go_wp2_with fail
                  refine Calls.mono (lyes_nil 0 1 _) ?_
                  rintro e w5 ⟨rfl, rfl⟩
                  go_wp2_with fail
                  refine Calls.mono (lno_nil 0 _) ?_
                  rintro e w5 ⟨rfl, rfl⟩
                  go_wp2_with fail
                  refine Calls.mono (ca _) ?_
                  rintro e w5 ⟨rfl, h5⟩
                  have cd := ldecided T wv w5 a g g M X v ts (HY.out.1.lead.below h5) (HY.out.1.log.below h5) (by have := HJ.out.1; omega) (fun i hi => by rw [HY.out.1.m i hi, if_pos hi]; have := HAB.out i; omega)
                  have hdm : decZ M ts T wv = _ := HDM.out
                  rw [hdm] at cd
                  have HF5 := Lib.hid (HFB.out.trans (h5.mono HFB.out.size))
                  clear h5 hdm ca
                  go_wp2_with fail
                  refine Calls.mono cd ?_
                  rintro e w6 ⟨rfl, h6⟩
                  have HF6 := Lib.hid (HF5.out.trans (h6.mono HF5.out.size))
                  clear h6 cd
                  go_wp2_with fail
                  refine Calls.mono (ldecN T wv g _) ?_
                  rintro e w7 ⟨rfl, rfl⟩
                  go_wp2_with fail
                  refine Calls.mono (lnext_nil 0 _) ?_
                  rintro e w7 ⟨rfl, rfl⟩
                  go_wp2_with fail
                  refine Calls.mono (lmatch_nil 0 _) ?_
                  rintro e w7 ⟨rfl, rfl⟩
                  go_wp2_with fail
                  go_ret
                  exact ⟨rfl, HF6.out⟩
                · have e : Q = D := hDB.symm
                  clear hDB
                  subst e
                  go_wp2_with fail
                  refine Calls.mono (lyes_nil 0 1 _) ?_
                  rintro e w5 ⟨rfl, rfl⟩
                  go_wp2_with fail
                  refine Calls.mono (lno_nil 0 _) ?_
                  rintro e w5 ⟨rfl, rfl⟩
                  go_wp2_with fail
                  refine Calls.mono (ca _) ?_
                  rintro e w5 ⟨rfl, h5⟩
                  have cd := ldecided T wv w5 a g g M X v ts (HY.out.1.lead.below h5) (HY.out.1.log.below h5) (by have := HJ.out.1; omega) (fun i hi => by rw [HY.out.1.m i hi, if_pos hi]; have := HAB.out i; omega)
                  have hdm : decZ M ts T wv = _ := HDM.out
                  rw [hdm] at cd
                  have HF5 := Lib.hid (HFB.out.trans (h5.mono HFB.out.size))
                  clear h5 hdm ca
                  go_wp2_with fail
                  refine Calls.mono cd ?_
                  rintro e w6 ⟨rfl, h6⟩
                  have HF6 := Lib.hid (HF5.out.trans (h6.mono HF5.out.size))
                  clear h6 cd
                  go_wp2_with fail
                  refine Calls.mono (ldecN T wv g _) ?_
                  rintro e w7 ⟨rfl, rfl⟩
                  go_wp2_with fail
                  refine Calls.mono (lnext_nil 0 _) ?_
                  rintro e w7 ⟨rfl, rfl⟩
                  go_wp2_with fail
                  refine Calls.mono (lmatch_nil 0 _) ?_
                  rintro e w7 ⟨rfl, rfl⟩
                  go_wp2_with fail
                  go_ret
                  exact ⟨rfl, HF6.out⟩
end Go.Proofs.Ytadejhlljdcocaa
