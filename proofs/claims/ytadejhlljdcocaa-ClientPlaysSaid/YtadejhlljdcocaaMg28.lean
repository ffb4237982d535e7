/-
  Several texts, laid together.
-/
import Derived.Test.YtadejhlljdcocaaMg27
/-
  ClientPlays' walk, of its own.
-/

namespace Go.Proofs.Ytadejhlljdcocaa
open Go.RowKit
open Go.Maps (Keyed)
set_option linter.unusedVariables false
set_option linter.unusedSimpArgs false

theorem plr_start {w w1 : World} {p b : Nat} (h1 : Hist w1 w.heap.size p b (.slice none 0 0) [] 0 []) (hb1 : Below w.heap.size w w1) :
    PlR w ((w1.alloc (.cells #[] 104)).alloc (.cells #[] 3)) w.heap.size p b (.slice none 0 0) (.slice (some ⟨w1.heap.size, 0, none⟩) 0 0) (.slice (some ⟨w1.heap.size + 1, 0, none⟩) 0 0) [] [] [] [] 0 := by
  have hbA := (Below.refl w1.heap.size w1).alloc (Nat.le_refl _) (.cells #[] 104)
  have hz : (w1.alloc (.cells #[] 104)).heap.size = w1.heap.size + 1 := by simp
  have hbB := hbA.alloc hbA.size (.cells #[] 3)
  have hp := lt_heap h1.obj
  obtain ⟨D, hm, -⟩ := h1.map
  have hbm := hm.lt
  have ho1 : (w1.alloc (.cells #[] 104)).ownsRow w.heap.size 104 10 (.slice (some ⟨w1.heap.size, 0, none⟩) 0 0) 0 [] := World.ownsRow_lit (base := w.heap.size) w1 #[] 0 hb1.size (by decide) rfl
  have ho2 : ((w1.alloc (.cells #[] 104)).alloc (.cells #[] 3)).ownsRow w.heap.size 3 1 (.slice (some ⟨(w1.alloc (.cells #[] 104)).heap.size, 0, none⟩) 0 0) 0 [] := World.ownsRow_lit (base := w.heap.size) (w1.alloc (.cells #[] 104)) #[] 0 (by have := hb1.size; omega) (by decide) rfl
  rw [hz] at ho2
  exact ⟨h1.below hbB, ho1.alloc _, ho2, (fun k e => by have e : some w1.heap.size = some k := e; injection e with e; exact ⟨by omega, by omega, fun q => by cases q⟩), hb1.trans (hbB.mono hb1.size)⟩
theorem below_cell {w w' : World} {b o : Nat} {v : Value} (hb : Below w.heap.size w w') (hlt : b < w.heap.size) (h : w.cell? ⟨b, o, none⟩ = some v) : w'.cell? ⟨b, o, none⟩ = some v := by
  have e := hb.block b hlt
  simp only [World.cell?] at h ⊢
  rw [e]
  exact h
theorem drewN_moreC (w : World) (n m : Nat) : (w.drewN n).drewN m = w.drewN (n + m) := by unfold World.drewN; simp [Nat.add_assoc]
set_option maxHeartbeats 12800000 in
set_option maxRecDepth 400000 in
theorem clientplays_law (a : Option Addr) (len cap : Nat) (w : World) (hf0 : Fits w (.slice cactSh) [.slice a len cap]) :
    Calls Try.prog 10 #[.slice a len cap] w fun e w' => e = .returned (.bool true) ∧ Below w.heap.size w w' := by
  obtain ⟨i0, hi, hz0, hz1, hz2⟩ := ev_zero
  obtain ⟨j0, hj0, hy0, hy1, hy2⟩ := info_parts oinfoC
  obtain ⟨ac, hlen, hel, hok⟩ := fits_rows (c := aC) (good := AOk) (fun ys h => act_one h) hf0
  have hcm : len ≤ cap ∧ cap ≤ maxLen := ⟨hf0.slice.1, hf0.slice.2.1⟩
  obtain ⟨hlc, hcm⟩ := hcm
  unfold maxLen at hcm
  have HEL := Lib.hid (show Elts w aC 10 (.slice a len cap) ac from hel)
  have HOK := Lib.hid (And.intro hok hlen)
  clear hf0 hel hok hlen
  go_enter Try.func10, Try.ntmps10
  go_wp2_with fail
  refine Calls.mono (cnew _) ?_
  rintro e w1 ⟨p, b, rfl, h1, hb1⟩
  have HP := Lib.hid (plr_start h1 hb1)
  obtain ⟨B1, hB1⟩ : ∃ B, w1.heap.size = B := ⟨_, rfl⟩
  rw [hB1] at HP
  clear h1 hb1
  go_upto_block 0 with fail
  clear hB1
  generalize (w1.alloc (.cells #[] 104)).alloc (.cells #[] 3) = W1 at *
  go_cut [4, 5, 6, 7] from 22 to 148 (fun mv ov nx iv wx => ∃ (n : Nat) (sv : Value) (E : List EV) (op : List Int), n ≤ 60 ∧ E.length ≤ 60 ∧ op.length ≤ 60 ∧ Hid (PlR w wx w.heap.size p b sv mv ov E E op op n) ∧ Hid (Sane E op n))
  case first =>
    go_wp2_with fail
    go_loopw [4, 5, 6, 7] (fun mv ov nx iv wr => ∃ (j n k : Nat) (sv : Value) (E : List EV) (op : List Int), j ≤ len ∧ j ≤ 60 ∧ iv = .int .i64 j ∧ nx = .int .i64 k ∧ n ≤ j ∧ E.length ≤ j ∧ op.length ≤ j ∧ Hid (n + 1 = k) ∧ Hid (PlR w wr w.heap.size p b sv mv ov E E op op n) ∧ Hid (Sane E op n)) (fun _ _ _ iv _ => 60 - (intOf iv).toNat)
    case atStart => exact ⟨0, 0, 1, _, [], [], Nat.zero_le _, Nat.zero_le _, rfl, rfl, Nat.le_refl _, Nat.le_refl _, Nat.le_refl _, Lib.hid rfl, HP, Lib.hid Sane.nil⟩
    case round =>
      obtain ⟨j, n, k, sv, E, op, hj, hj60, rfl, rfl, hnj, hEj, hoj, HK, HPL, HSA⟩ := hrel
      clear HP
      by_cases hlt : j < len ∧ j < 60
      · obtain ⟨hl1, hl2⟩ := hlt
        obtain ⟨x, hx⟩ : ∃ x, ac[j]? = some x := ⟨_, List.getElem?_eq_getElem (by have := HOK.out.2; omega)⟩
        obtain ⟨-, bb, off, rfl, hbb, hc⟩ := (HEL.out.below HPL.out.below).at_ hx
        have hxo := HOK.out.1 x (List.mem_of_getElem? hx)
        have HXO := Lib.hid hxo
        have k0 := hc 0 _ rfl
        have k1 := hc 1 _ rfl
        have k2 := hc 2 _ rfl
        have k3 := hc 3 _ rfl
        have k4 := hc 4 _ rfl
        have k5 := hc 5 _ rfl
        have k6 := hc 6 _ rfl
        have k7 := hc 7 _ rfl
        have k8 := hc 8 _ rfl
        have k9 := hc 9 _ rfl
        rw [Nat.add_zero] at k0
        obtain ⟨tell, gate, what, at_, ln, data, sure, id, err, txt⟩ := x
        have hb1 := (Below.refl wr.heap.size wr).alloc (Nat.le_refl _) (.cells (aC ⟨tell, gate, what, at_, ln, data, sure, id, err, txt⟩).toArray 101)
        have hy := heap_alloc_self wr (.cells (aC ⟨tell, gate, what, at_, ln, data, sure, id, err, txt⟩).toArray 101)
        have HP1 := Lib.hid (And.intro (HPL.out.go hb1 HPL.out.below.size) hy)
        have ht : (aC ⟨tell, gate, what, at_, ln, data, sure, id, err, txt⟩).toArray = #[.bool tell, .int .i64 gate, .int .i64 what, .int .i64 at_, .int .i64 ln, .string data, .bool sure, .int .i64 id, .int .i64 err, .string txt] := rfl
        rw [ht] at HP1
        clear hx hc hxo hb1 hy ht
        go_upto_region 6 with fail
        generalize wr.alloc (.cells #[.bool tell, .int .i64 gate, .int .i64 what, .int .i64 at_, .int .i64 ln, .string data, .bool sure, .int .i64 id, .int .i64 err, .string txt] 101) = w2 at *
        obtain ⟨q, hq⟩ : ∃ q, wr.heap.size = q := ⟨_, rfl⟩
        rw [hq] at HP1
        simp only [hq]
        have hNq : w.heap.size ≤ q := by rw [← hq]; exact HPL.out.below.size
        clear hq k0 k1 k2 k3 k4 k5 k6 k7 k8 k9
        have y0 := scell0 HP1.out.2 0 (v := .bool tell) rfl
        have y1 := scell0 HP1.out.2 1 (v := .int .i64 gate) rfl
        have y2 := scell0 HP1.out.2 2 (v := .int .i64 what) rfl
        have y3 := scell0 HP1.out.2 3 (v := .int .i64 at_) rfl
        have y4 := scell0 HP1.out.2 4 (v := .int .i64 ln) rfl
        have y5 := scell0 HP1.out.2 5 (v := .string data) rfl
        have y6 := scell0 HP1.out.2 6 (v := .bool sure) rfl
        have y7 := scell0 HP1.out.2 7 (v := .int .i64 id) rfl
        have y8 := scell0 HP1.out.2 8 (v := .int .i64 err) rfl
        have y9 := scell0 HP1.out.2 9 (v := .string txt) rfl
        go_upto_if 38 with fail
        go_cut [4, 5, 6] (fun mv ov nx wx => ∃ (n k : Nat) (sv : Value) (E : List EV) (op : List Int), nx = .int .i64 k ∧ n ≤ j + 1 ∧ E.length ≤ j + 1 ∧ op.length ≤ j + 1 ∧ Hid (n + 1 = k) ∧ Hid (PlR w wx w.heap.size p b sv mv ov E E op op n) ∧ Hid (Sane E op n))
        case first =>
          cases tell
          · have ca := cask gate what at_ ln data sure w2 w.heap.size p b sv E n op HP1.out.1.hist (by omega) (by omega) HP1.out.1.below.size
            rw [HK.out] at ca
            go_wp2_with fail
            refine Calls.mono ca ?_
            rintro e w3 ⟨rfl, s3, h3, hk3⟩
            have hqo := HP1.out.1.other HP1.out.2 (by decide) (by decide) (by decide)
            have HP3 := Lib.hid (And.intro (HP1.out.1.turn h3 hk3 HP1.out.1.below.size) ((hk3.block q (lt_heap HP1.out.2) hqo.1 hqo.2.1 hqo.2.2.1).trans HP1.out.2))
            clear ca h3 hk3 hqo
            have y0 := scell0 HP3.out.2 0 (v := .bool false) rfl
            have y1 := scell0 HP3.out.2 1 (v := .int .i64 gate) rfl
            have y2 := scell0 HP3.out.2 2 (v := .int .i64 what) rfl
            have y3 := scell0 HP3.out.2 3 (v := .int .i64 at_) rfl
            have y4 := scell0 HP3.out.2 4 (v := .int .i64 ln) rfl
            have y5 := scell0 HP3.out.2 5 (v := .string data) rfl
            have y6 := scell0 HP3.out.2 6 (v := .bool sure) rfl
            have hsz3 := HP3.out.1.below.size
            go_wp2_with (at_builtin; refine wp_appN Try.underlying94 hi hz0 hz1 hz2 rfl (by decide) rfl (.tmp 47) (.tmp 54) rfl w.heap.size _ _ _ rfl (HP3.out.1.mrow.alloc _) _ _ 1 (evC [⟨false, k, gate, what, at_, ln, data, sure, 0, ⟨#[]⟩⟩]) rfl (SR.lit _ _ #[.bool false, .int .i64 k, .int .i64 gate, .int .i64 what, .int .i64 at_, .int .i64 ln, .string data, .bool sure, .int .i64 0, .string ⟨#[]⟩] 10 1 (by decide) rfl) (by decide) ?c1 ?c2 ?c3 ?c4 ?_)
            case c1 => exact evC_one _
            case c2 => unfold maxLen; omega
            case c3 => omega
            case c4 => simp; omega
            intro mv' w4 hown hgr hnw
            have HP4 := Lib.hid (HP3.out.1.note HP3.out.1.below.size hown hgr (by simpa using hnw))
            clear hown hgr hnw y0 y1 y2 y3 y4 y5 y6 HP3
            have hsz4 := HP4.out.below.size
            go_wp2_with (at_builtin; refine wp_app Try.underlying29 hj0 hy0 hy1 hy2 rfl (by decide) rfl (.tmp 56) (.tmp 58) rfl w.heap.size _ _ _ rfl (HP4.out.orow.alloc _) _ 1 (nCells [(k : Int)]) rfl (SR.lit _ _ #[.int .i64 k] 1 1 (by decide) rfl) ?c1 ?c2 ?c3 ?c4 ?_)
            case c1 => exact nCells_one _
            case c2 => unfold maxLen; omega
            case c3 => omega
            case c4 => simp; omega
            intro ov' w5 hown hgr
            have HP5 := Lib.hid (HP4.out.opens (om' := op ++ [(k : Int)]) HP4.out.below.size (by rw [List.length_append, ← nCells_append]; exact hown) hgr)
            have hkn := HK.out
            have hw1 : IntKind.i64.wrap ((k : Int) + 1) = ((k + 1 : Nat) : Int) := by rw [IntKind.wrap_i64]; omega
            have HS5 := Lib.hid (HSA.out.ask (e := ⟨false, k, gate, what, at_, ln, data, sure, 0, ⟨#[]⟩⟩) ⟨wf_of (by show _ ≤ (k : Int) ∧ (k : Int) ≤ _; omega), HXO.out.gate, HXO.out.what, HXO.out.at_, HXO.out.len, (show (Lit.int .i64 0).wf = true by decide), HXO.out.data, (show (⟨#[]⟩ : ByteArray).size ≤ maxLen by decide)⟩ rfl)
            rw [hkn] at HS5
            have HKK := Lib.hid (show k + 1 = k + 1 from rfl)
            obtain ⟨k', hk'⟩ : ∃ k', k + 1 = k' := ⟨_, rfl⟩
            rw [hk'] at hw1 HKK
            have hkj : k ≤ j + 1 := by omega
            have hl6 : (E ++ [(⟨false, k, gate, what, at_, ln, data, sure, 0, ⟨#[]⟩⟩ : EV)]).length ≤ j + 1 := by simp; omega
            have hl7 : (op ++ [(k : Int)]).length ≤ j + 1 := by simp; omega
            have HKK2 := Lib.hid hk'
            clear hown hgr HP4 hk' hkn HKK
            go_wp2_with fail
            go_meet
            exact ⟨k, k', s3, _, _, rfl, hkj, hl6, hl7, HKK2, HP5, HS5⟩
          · have hb3 := (Below.refl w2.heap.size w2).alloc (Nat.le_refl _) (.cells #[.int .i64 id, .int .i64 err, .string txt] 99)
            have hy3 := heap_alloc_self w2 (.cells #[.int .i64 id, .int .i64 err, .string txt] 99)
            have HP3 := Lib.hid (And.intro (HP1.out.1.go hb3 HP1.out.1.below.size) (And.intro (below_at hb3 (lt_heap HP1.out.2) HP1.out.2) hy3))
            have hq2 : w.heap.size ≤ w2.heap.size := HP1.out.1.below.size
            have hmk := mask_mod (j : Int) 2 3 (by decide) (by decide)
            have hmi := mask_mod id 4 15 (by decide) (by decide)
            obtain ⟨J, hJ⟩ : ∃ J, bits .and .i64 (j : Int) 3 = J := ⟨_, rfl⟩
            obtain ⟨I, hI⟩ : ∃ I, bits .and .i64 id 15 = I := ⟨_, rfl⟩
            rw [hJ] at hmk
            rw [hI] at hmi
            have hI2 : (Lit.int .i64 I).wf = true := wf_of (by omega)
            have HI2 := Lib.hid hI2
            have HIR := Lib.hid HXO.out.id
            clear hb3 hy3 hmi hI2
            go_upto_if 66 with fail
            generalize w2.alloc (.cells #[.int .i64 id, .int .i64 err, .string txt] 99) = w3 at *
            obtain ⟨q2, hq2'⟩ : ∃ q, w2.heap.size = q := ⟨_, rfl⟩
            rw [hq2'] at HP3 hq2
            simp only [hq2']
            clear hq2' y0 y1 y2 y3 y4 y5 y6 y7 y8 y9
            have y7 := scell0 HP3.out.2.1 7 (v := .int .i64 id) rfl
            have z0 := scell0 HP3.out.2.2 0 (v := .int .i64 id) rfl
            have zf := sfrz0 HP3.out.2.2
            go_cut [] (fun wx => ∃ rid : Int, Hid ((Lit.int .i64 rid).wf = true) ∧ Hid (PlR w wx w.heap.size p b sv u4 u5 E E op op n ∧ wx.heap[q]? = some (.cells #[.bool true, .int .i64 gate, .int .i64 what, .int .i64 at_, .int .i64 ln, .string data, .bool sure, .int .i64 id, .int .i64 err, .string txt] 101) ∧ wx.heap[q2]? = some (.cells #[.int .i64 rid, .int .i64 err, .string txt] 99)))
            case first =>
              by_cases hJ0 : J = 0
              · subst hJ0
                go_wp2_with fail
                go_meet
                exact ⟨id, HIR, HP3⟩
              · have hJ1 : 0 < J := by omega
                have hqo := HP3.out.1.other HP3.out.2.2 (by decide) (by decide) (by decide)
                have hqq : q ≠ q2 := fun e => by
                  have h := HP3.out.2.1
                  rw [e, HP3.out.2.2] at h
                  injection h with h
                  injection h with _ h
                  exact absurd h (by decide)
                have HP4 := Lib.hid (And.intro (HP3.out.1.cellw (i := 0) hqo hq2 (.int .i64 I)) (And.intro ((heap_setCell_other w3 ⟨q2, 0, none⟩ q (.int .i64 I) hqq).trans HP3.out.2.1) (heap_set_self HP3.out.2.2 0 (.int .i64 I))))
                clear hqo hqq
                go_wp2_with fail
                go_meet
                exact ⟨I, HI2, HP4⟩
            case rest =>
              obtain ⟨rid, HR, HC⟩ := hcut
              clear y7 z0 zf HP3 HP1 HPL hJ hI hmk HI2 HIR
              obtain ⟨W0, hW0⟩ : ∃ W0, W0 = wc := ⟨_, rfl⟩
              subst hW0
              have hro := SR.owns HC.out.1.orow
              obtain ⟨oa, oc, hu5, hoc, -⟩ := hro.form
              subst hu5
              have z0 := scell0 HC.out.2.2 0 (v := .int .i64 rid) rfl
              have HRO := Lib.hid hro
              clear hro
              go_wp2_with fail
              go_loopw [10, 11] (fun av kv wx => ∃ m t : Nat, m ≤ op.length ∧ kv = .int .i64 m ∧ wx = W0.drewN t ∧ ((av = .int .i64 (-1) ∧ Hid (∀ i, i < m → op[i]? ≠ some rid)) ∨ ∃ i : Nat, av = .int .i64 i ∧ Hid (i < m ∧ op[i]? = some rid))) (fun _ kv _ => op.length - (intOf kv).toNat)
              case atStart => exact ⟨0, 0, Nat.zero_le _, rfl, rfl, .inl ⟨rfl, Lib.hid (fun i h => by omega)⟩⟩
              case round =>
                obtain ⟨m, t, hm, rfl, rfl, hav⟩ := hrel
                by_cases hml : m < op.length
                · obtain ⟨y, hy⟩ : ∃ y, op[m]? = some y := ⟨_, List.getElem?_eq_getElem hml⟩
                  obtain ⟨g, o, rfl, -, hcl⟩ := HRO.out.int (by omega)
                  have d0 := hcl m hml
                  rw [List.getD_eq_getElem?_getD, hy] at d0
                  replace d0 : W0.cell? ⟨g, o + m, none⟩ = some (.int .i64 y) := d0
                  have HY := Lib.hid hy
                  clear hcl hy
                  by_cases hyr : y = rid
                  · have hq1 : (y == rid) = true := by simpa using hyr
                    have HYR := Lib.hid hyr
                    clear hyr
                    go_upto_region 19 with fail
                    go_quiet (fail)
                    go_wp2_with fail
                    go_roundw
                    case rel => exact ⟨m + 1, _, by omega, by go_num, rfl, .inr ⟨m, rfl, Lib.hid ⟨by omega, by rw [HY.out, HYR.out]⟩⟩⟩
                    case measure => simp [intOf]; omega
                  · have hq1 : (y == rid) = false := by simpa using hyr
                    have HYR := Lib.hid hyr
                    clear hyr
                    go_upto_region 19 with fail
                    go_quiet (fail)
                    go_wp2_with fail
                    go_roundw
                    case rel =>
                      refine ⟨m + 1, _, by omega, by go_num, rfl, hav.imp (fun ⟨e, h⟩ => ⟨e, Lib.hid fun i hi => ?_⟩) (fun ⟨i, e, h⟩ => ⟨i, e, Lib.hid ⟨by have := h.out.1; omega, h.out.2⟩⟩)⟩
                      rcases Nat.lt_or_ge i m with r | r
                      · exact h.out i r
                      · obtain rfl : i = m := by omega
                        rw [HY.out]
                        exact fun e2 => HYR.out (Option.some.inj e2)
                    case measure => simp [intOf]; omega
                · obtain rfl : m = op.length := by omega
                  have HC2 := Lib.hid (And.intro (HC.out.1.go (below_drewN' (Below.refl _ _) t) HC.out.1.below.size) (And.intro (show (W0.drewN t).heap[q]? = _ from HC.out.2.1) (show (W0.drewN t).heap[q2]? = _ from HC.out.2.2)))
                  clear z0 HC HRO
                  generalize W0.drewN t = w4 at *
                  have y1 := scell0 HC2.out.2.1 1 (v := .int .i64 gate) rfl
                  have z0 := scell0 HC2.out.2.2 0 (v := .int .i64 rid) rfl
                  have z1 := scell0 HC2.out.2.2 1 (v := .int .i64 err) rfl
                  have z2 := scell0 HC2.out.2.2 2 (v := .string txt) rfl
                  rcases hav with ⟨rfl, hno⟩ | ⟨i, rfl, hin⟩
                  · have ct := ctell_no gate rid err txt w4 w.heap.size p b sv E n op HC2.out.1.hist HR.out (fun hm => by
                      obtain ⟨i, hi, e⟩ := List.getElem_of_mem hm
                      exact hno.out i hi (by rw [List.getElem?_eq_getElem hi, e]))
                    go_wp2_with fail
                    refine Calls.mono ct ?_
                    rintro e w5 ⟨rfl, hb5⟩
                    have HP5 := Lib.hid (HC2.out.1.go hb5 HC2.out.1.below.size)
                    have hnj1 : n ≤ j + 1 := by omega
                    have hEj1 : E.length ≤ j + 1 := by omega
                    have hoj1 : op.length ≤ j + 1 := by omega
                    clear ct hb5 HC2 y1 z0 z1 z2
                    go_wp2_with fail
                    go_meet
                    exact ⟨n, k, sv, E, op, rfl, hnj1, hEj1, hoj1, HK, HP5, HSA⟩
                  · have ct := ctell gate rid err txt w4 w.heap.size p b sv E n op HC2.out.1.hist HR.out (List.mem_of_getElem? hin.out.2) (by omega) HC2.out.1.below.size
                    go_wp2_with fail
                    refine Calls.mono ct ?_
                    rintro e w5 ⟨rfl, s5, h5, hk5⟩
                    have hqo := HC2.out.1.other HC2.out.2.1 (by decide) (by decide) (by decide)
                    have hqo2 := HC2.out.1.other HC2.out.2.2 (by decide) (by decide) (by decide)
                    have HP5 := Lib.hid (And.intro (HC2.out.1.turn h5 hk5 HC2.out.1.below.size) (And.intro ((hk5.block q (lt_heap HC2.out.2.1) hqo.1 hqo.2.1 hqo.2.2.1).trans HC2.out.2.1) ((hk5.block q2 (lt_heap HC2.out.2.2) hqo2.1 hqo2.2.1 hqo2.2.2.1).trans HC2.out.2.2)))
                    have HRG := Lib.hid HC2.out.1.hist
                    clear ct h5 hk5 hqo hqo2 y1 z0 z1 z2
                    have y1 := scell0 HP5.out.2.1 1 (v := .int .i64 gate) rfl
                    have z0 := scell0 HP5.out.2.2 0 (v := .int .i64 rid) rfl
                    have z1 := scell0 HP5.out.2.2 1 (v := .int .i64 err) rfl
                    have z2 := scell0 HP5.out.2.2 2 (v := .string txt) rfl
                    have hsz5 := HP5.out.1.below.size
                    have hil : (i : Int) < op.length := by have := (List.getElem?_eq_some_iff.1 hin.out.2).1; omega
                    go_wp2_with (at_builtin; refine wp_appN Try.underlying94 hi hz0 hz1 hz2 rfl (by decide) rfl (.tmp 96) (.tmp 106) rfl w.heap.size _ _ _ rfl (HP5.out.1.mrow.alloc _) _ _ 1 (evC [⟨true, rid, gate, 0, 0, 0, ⟨#[]⟩, false, err, txt⟩]) rfl (SR.lit _ _ #[.bool true, .int .i64 rid, .int .i64 gate, .int .i64 0, .int .i64 0, .int .i64 0, .string ⟨#[]⟩, .bool false, .int .i64 err, .string txt] 10 1 (by decide) rfl) (by decide) ?c1 ?c2 ?c3 ?c4 ?_)
                    case c1 => exact evC_one _
                    case c2 => unfold maxLen; omega
                    case c3 => omega
                    case c4 => simp; omega
                    intro mv' w6 hown hgr hnw
                    have HP6 := Lib.hid (HP5.out.1.note HP5.out.1.below.size hown hgr (by simpa using hnw))
                    clear hown hgr hnw y1 z0 z1 z2 HP5
                    --R25
                    obtain ⟨g, o, hoa, -, -⟩ := (SR.owns HP6.out.orow).int (by omega)
                    subst hoa
                    obtain ⟨N6, hN6⟩ : ∃ N6, w6.heap.size = N6 := ⟨_, rfl⟩
                    have hks := keeps_start hN6
                    have hs1 := fun w' (h : N6 ≤ w'.heap.size ∧ Below N6 w6 w' ∧ ∀ b o, b < N6 → w'.cell? ⟨b, o, none⟩ = w6.cell? ⟨b, o, none⟩) => (SR.front ((SR.owns HP6.out.orow).below (hN6 ▸ h.2.1)) i (by omega))
                    have hs2 := fun w' (h : N6 ≤ w'.heap.size ∧ Below N6 w6 w' ∧ ∀ b o, b < N6 → w'.cell? ⟨b, o, none⟩ = w6.cell? ⟨b, o, none⟩) => (sr_partC ((SR.owns HP6.out.orow).below (hN6 ▸ h.2.1)) (i + 1) (by omega))
                    simp only [nCells_take] at hs1
                    obtain ⟨i1, hi1⟩ : ∃ i1, i + 1 = i1 := ⟨_, rfl⟩
                    rw [hi1] at hs2
                    have hw2 : IntKind.i64.wrap ((i : Int) + 1) = (i1 : Int) := by rw [IntKind.wrap_i64]; omega
                    have hoc6 : op.length ≤ oc := by
                      obtain ⟨_, _, e, q, -⟩ := (SR.owns HP6.out.orow).form
                      first | (cases e; exact q) | skip
                      first | done | omega
                    have hA1 : i ≤ oc := by omega
                    have hA2 : i1 ≤ op.length := by omega
                    have hA3 : i1 ≤ oc := by omega
                    have hA4 : (i1 : Int) ≤ op.length := by omega
                    have hA5 : (i1 : Int) ≤ oc := by omega
                    have hA6 : (i : Int) ≤ oc := by omega
                    have hA7 : (0 : Int) ≤ i := by omega
                    have hA8 : (0 : Int) ≤ i1 := by omega
                    have HFIL := Lib.hid (splice HRG.out.up (k := i) (x := rid) hin.out.2)
                    have HI1 := Lib.hid hi1
                    clear hi1
                    have hown0 : (w6.alloc (.cells #[] 3)).drew.ownsRow N6 3 1 (.slice (some ⟨N6, 0, none⟩) 0 0) 0 [] := by
                      have h := World.ownsRow_lit (base := N6) (e := 3) (size := 1) w6 #[] 0 (by omega) (by decide) rfl
                      rw [hN6] at h
                      exact owns_below h (below_drew' (Below.refl _ _))
                    have hs3 : i1 = oc → ∀ w' x (n c : Nat), n = op.length - i1 → c = oc - i1 → SR w' (.slice x n c) 1 (op.length - i1) (nCells (op.drop i1)) := fun e w' x n c e1 e2 => by
                      subst e1 e2
                      exact ⟨x, _, rfl, by omega, by unfold maxLen; omega, by simp [nCells], .inl (by omega)⟩
                    go_upto_region 25 with fail
                    by_cases hA9 : i1 = oc
                    · have hs4 := hs3 hA9
                      clear hs3
                      subst hA9
                      go_region_held3 (fun w' => N6 ≤ w'.heap.size ∧ Below N6 w6 w' ∧ ∀ b o, b < N6 → w'.cell? ⟨b, o, none⟩ = w6.cell? ⟨b, o, none⟩) (first | exact hks | exact keeps_alloc (by assumption) | exact keeps_app (by assumption) (by assumption) (by assumption)) (first | (refine step_appH Try.underlying29 hj0 hy0 hy1 hy2 rfl (by decide) rfl (.tmp 108) (.tmp 111) rfl N6 _ 0 [] rfl hown0 _ i (nCells (op.take i)) rfl (hs1 _ (by assumption)) (nCells_one _) (by unfold maxLen; omega) (by omega) (And.left (by assumption)) ?_; intro v7 w7 own7 gr7) | (refine step_appH Try.underlying29 hj0 hy0 hy1 hy2 rfl (by decide) rfl (.tmp 112) (.tmp 116) rfl N6 _ (0 + i) _ rfl own7 _ (op.length - i1) (nCells (op.drop i1)) rfl (hs4 _ _ _ _ (by omega) (by omega)) (nCells_one _) (by unfold maxLen; omega) (by omega) (And.left (by assumption)) ?_; intro v8 w8 own8 gr8))
                      have hfin := ‹N6 ≤ w8.heap.size ∧ Below N6 w6 w8 ∧ _›
                      have hbf : Below w6.heap.size w6 w8 := by rw [hN6]; exact hfin.2.1
                      have hfl : (op.filter (fun x => decide (x ≠ rid))).length = 0 + i + (op.length - i1) := by
                        rw [← HFIL.out, List.length_append, List.length_take, List.length_drop, HI1.out]; omega
                      have hown' : w8.ownsRow w6.heap.size 3 1 v8 (op.filter (fun x => decide (x ≠ rid))).length (nCells (op.filter (fun x => decide (x ≠ rid)))) := by
                        rw [hN6, hfl, ← HFIL.out, ← nCells_append, HI1.out]; simpa using own8
                      have HP8 := Lib.hid (HP6.out.fresh (by have := HP6.out.below.size; omega) hown' hbf)
                      have hl8 : (op.filter (fun x => decide (x ≠ rid))).length ≤ j + 1 := by rw [hfl]; have := HI1.out; omega
                      have hl9 : (E ++ [(⟨true, rid, gate, 0, 0, 0, ⟨#[]⟩, false, err, txt⟩ : EV)]).length ≤ j + 1 := by simp; omega
                      have hnj1 : n ≤ j + 1 := by omega
                      have HS8 := Lib.hid (HSA.out.tell (e := ⟨true, rid, gate, 0, 0, 0, ⟨#[]⟩, false, err, txt⟩) ⟨HR.out, HXO.out.gate, (show (Lit.int .i64 0).wf = true by decide), (show (Lit.int .i64 0).wf = true by decide), (show (Lit.int .i64 0).wf = true by decide), HXO.out.err, (show (⟨#[]⟩ : ByteArray).size ≤ maxLen by decide), HXO.out.txt⟩ (List.mem_of_getElem? hin.out.2) HRG.out.rng)
                      clear hfin hbf hown' own7 own8 gr7 gr8 hown0 hks hs1 hs2
                      go_wp2_with fail
                      go_meet
                      exact ⟨n, k, s5, _, _, rfl, hnj1, hl9, hl8, HK, HP8, HS8⟩
                    · have hA10 : ¬ oc = i1 := fun e => hA9 e.symm
                      have hB1 : ¬ oc ≤ i1 := by omega
                      have hB2 : i1 < oc := by omega
                      have hB3 : ¬ oc - i1 = 0 := by omega
                      clear hs3
                      go_region_held3 (fun w' => N6 ≤ w'.heap.size ∧ Below N6 w6 w' ∧ ∀ b o, b < N6 → w'.cell? ⟨b, o, none⟩ = w6.cell? ⟨b, o, none⟩) (first | exact hks | exact keeps_alloc (by assumption) | exact keeps_app (by assumption) (by assumption) (by assumption)) (first | (refine step_appH Try.underlying29 hj0 hy0 hy1 hy2 rfl (by decide) rfl (.tmp 108) (.tmp 111) rfl N6 _ 0 [] rfl hown0 _ i (nCells (op.take i)) rfl (hs1 _ (by assumption)) (nCells_one _) (by unfold maxLen; omega) (by omega) (And.left (by assumption)) ?_; intro v7 w7 own7 gr7) | (refine step_appH Try.underlying29 hj0 hy0 hy1 hy2 rfl (by decide) rfl (.tmp 112) (.tmp 116) rfl N6 _ (0 + i) _ rfl own7 _ (op.length - i1) (nCells (op.drop i1)) rfl (hs2 _ (by assumption)) (nCells_one _) (by unfold maxLen; omega) (by omega) (And.left (by assumption)) ?_; intro v8 w8 own8 gr8))
                      have hfin := ‹N6 ≤ w8.heap.size ∧ Below N6 w6 w8 ∧ _›
                      have hbf : Below w6.heap.size w6 w8 := by rw [hN6]; exact hfin.2.1
                      have hfl : (op.filter (fun x => decide (x ≠ rid))).length = 0 + i + (op.length - i1) := by
                        rw [← HFIL.out, List.length_append, List.length_take, List.length_drop, HI1.out]; omega
                      have hown' : w8.ownsRow w6.heap.size 3 1 v8 (op.filter (fun x => decide (x ≠ rid))).length (nCells (op.filter (fun x => decide (x ≠ rid)))) := by
                        rw [hN6, hfl, ← HFIL.out, ← nCells_append, HI1.out]; simpa using own8
                      have HP8 := Lib.hid (HP6.out.fresh (by have := HP6.out.below.size; omega) hown' hbf)
                      have hl8 : (op.filter (fun x => decide (x ≠ rid))).length ≤ j + 1 := by rw [hfl]; have := HI1.out; omega
                      have hl9 : (E ++ [(⟨true, rid, gate, 0, 0, 0, ⟨#[]⟩, false, err, txt⟩ : EV)]).length ≤ j + 1 := by simp; omega
                      have hnj1 : n ≤ j + 1 := by omega
                      have HS8 := Lib.hid (HSA.out.tell (e := ⟨true, rid, gate, 0, 0, 0, ⟨#[]⟩, false, err, txt⟩) ⟨HR.out, HXO.out.gate, (show (Lit.int .i64 0).wf = true by decide), (show (Lit.int .i64 0).wf = true by decide), (show (Lit.int .i64 0).wf = true by decide), HXO.out.err, (show (⟨#[]⟩ : ByteArray).size ≤ maxLen by decide), HXO.out.txt⟩ (List.mem_of_getElem? hin.out.2) HRG.out.rng)
                      clear hfin hbf hown' own7 own8 gr7 gr8 hown0 hks hs1 hs2
                      go_wp2_with fail
                      go_meet
                      exact ⟨n, k, s5, _, _, rfl, hnj1, hl9, hl8, HK, HP8, HS8⟩
        case rest =>
          obtain ⟨n', k', sv', E', op', rfl, hn', hE', ho', HK', HP', HS'⟩ := hcut
          obtain ⟨W0, hW0⟩ : ∃ W0, W0 = wc := ⟨_, rfl⟩
          subst hW0
          clear HP1 HPL HSA HK y0 y1 y2 y3 y4 y5 y6 y7 y8 y9
          obtain ⟨oa, oc, hu5, hoc, -⟩ := (SR.owns HP'.out.orow).form
          obtain ⟨ma, mc, hu4, hmc, -⟩ := (SR.owns HP'.out.mrow).form
          subst hu5 hu4
          have ca := call_ W0 _ p b _ _ _ _ HP'.out.hist (by omega)
          go_wp2_with fail
          refine Calls.mono ca ?_
          rintro e w3 ⟨v3, rfl, ho3, hb3⟩
          obtain ⟨a3, k3, rfl, -, -⟩ := (SR.owns ho3).form
          have HP3 := Lib.hid (HP'.out.go hb3 HP'.out.below.size)
          have co := copen w3 _ p b _ _ _ _ HP3.out.hist (by omega)
          clear ca ho3 hb3
          go_wp2_with fail
          refine Calls.mono co ?_
          rintro e w4 ⟨v4, rfl, ho4, hb4⟩
          obtain ⟨a4, k4, rfl, -, -⟩ := (SR.owns ho4).form
          have HP4 := Lib.hid (And.intro (HP3.out.go hb4 HP3.out.below.size) (SR.owns ho4))
          clear co ho4 hb4 HP3 HP'
          go_wp2_with fail
          go_loopw [14] (fun kv wx => ∃ m t : Nat, m ≤ op'.length ∧ kv = .int .i64 m ∧ wx = w4.drewN t) (fun kv _ => op'.length - (intOf kv).toNat)
          case atStart => exact ⟨0, 0, Nat.zero_le _, rfl, rfl⟩
          case round =>
            obtain ⟨m, t, hm, rfl, rfl⟩ := hrel
            by_cases hml : m < op'.length
            · obtain ⟨g, o, rfl, -, hcl⟩ := HP4.out.2.int (by omega)
              obtain ⟨g2, o2, rfl, -, hcl2⟩ := (SR.owns HP4.out.1.orow).int (by omega)
              have d0 := hcl m hml
              have d1 := hcl2 m hml
              clear hcl hcl2
              generalize op'.getD m 0 = y at d0 d1
              go_upto_region 32 with fail
              go_quiet (fail)
              go_wp2_with fail
              go_roundw
              case rel => exact ⟨m + 1, _, by omega, by go_num, rfl⟩
              case measure => simp [intOf]; omega
            · obtain rfl : m = op'.length := by omega
              have HP5 := Lib.hid (HP4.out.1.go (below_drewN' (Below.refl _ _) t) HP4.out.1.below.size)
              go_wp2_with fail
              go_roundw
              case rel => exact ⟨j + 1, n', k', sv', E', op', by omega, by omega, by go_num, rfl, hn', hE', ho', HK', HP5, HS'⟩
              case measure => simp [intOf]; omega
      · have hfin : j = len ∨ (j = 60 ∧ 60 < len) := by omega
        have h60n : n ≤ 60 := by omega
        have h60E : E.length ≤ 60 := by omega
        have h60o : op.length ≤ 60 := by omega
        clear hlt
        rcases hfin with rfl | ⟨rfl, h60⟩
        all_goals
          go_wp2_with fail
          go_meet
          exact ⟨n, sv, E, op, h60n, h60E, h60o, HPL, HSA⟩
  case rest =>
    obtain ⟨n, sv, E, op, hn, hE, hop, HPL, HSA⟩ := hcut
    obtain ⟨W0, hW0⟩ : ∃ W0, W0 = wc := ⟨_, rfl⟩
    subst hW0
    obtain ⟨ma, mc, hu4, hmc, -⟩ := (SR.owns HPL.out.mrow).form
    subst hu4
    have ca := call_ W0 _ p b _ _ _ _ HPL.out.hist (by omega)
    go_wp2_with fail
    refine Calls.mono ca ?_
    rintro e w3 ⟨v3, rfl, ho3, hb3⟩
    obtain ⟨a3, k3, rfl, -, -⟩ := (SR.owns ho3).form
    have HP3 := Lib.hid (And.intro (HPL.out.go hb3 HPL.out.below.size) (SR.owns ho3))
    clear ca ho3 hb3 HPL
    go_wp2_with fail
    go_loopw [16] (fun kv wx => ∃ m : Nat, m ≤ E.length ∧ kv = .int .i64 m ∧ Hid (PlR w wx w.heap.size p b sv (.slice ma E.length mc) u5 E E op op n ∧ SR wx (.slice a3 E.length k3) 10 E.length (evC E))) (fun kv _ => E.length - (intOf kv).toNat)
    case atStart => exact ⟨0, Nat.zero_le _, rfl, HP3⟩
    case round =>
      obtain ⟨m, hm, rfl, HP⟩ := hrel
      clear HP3
      obtain ⟨w4, hw4⟩ : ∃ W, W = wr := ⟨_, rfl⟩
      subst hw4
      by_cases hml : m < E.length
      · obtain ⟨x, hx⟩ : ∃ x, E[m]? = some x := ⟨_, List.getElem?_eq_getElem hml⟩
        obtain ⟨b3, off3, rfl, hc3⟩ := sr_ev HP.out.2 hx
        obtain ⟨b4, off4, rfl, hc4⟩ := sr_ev (SR.owns HP.out.1.mrow) hx
        have hxo := HSA.out.ok x (List.mem_of_getElem? hx)
        have hfnd := fun ha => HSA.out.find hx ha
        obtain ⟨xa, xi, xg, xw, xt, xl, xd, xs, xe, xx⟩ := x
        have hnq := fun w => ev_neq hxo w
        simp only at hnq hfnd
        have d0 := hc3 0 _ rfl (by decide)
        have d1 := hc3 1 _ rfl (by decide)
        have d2 := hc3 2 _ rfl (by decide)
        have d3 := hc3 3 _ rfl (by decide)
        have d4 := hc3 4 _ rfl (by decide)
        have d5 := hc3 5 _ rfl (by decide)
        have d6 := hc3 6 _ rfl (by decide)
        have d7 := hc3 7 _ rfl (by decide)
        have d8 := hc3 8 _ rfl (by decide)
        have d9 := hc3 9 _ rfl (by decide)
        have e0 := hc4 0 _ rfl (by decide)
        have e1 := hc4 1 _ rfl (by decide)
        have e2 := hc4 2 _ rfl (by decide)
        have e3 := hc4 3 _ rfl (by decide)
        have e4 := hc4 4 _ rfl (by decide)
        have e5 := hc4 5 _ rfl (by decide)
        have e6 := hc4 6 _ rfl (by decide)
        have e7 := hc4 7 _ rfl (by decide)
        have e8 := hc4 8 _ rfl (by decide)
        have e9 := hc4 9 _ rfl (by decide)
        simp only [Nat.add_zero] at d0 e0
        have HX := Lib.hid (And.intro hx (And.intro hxo hfnd))
        clear hx hxo hfnd hc3 hc4
        go_upto_region 38 with fail
        go_quiet (fail)
        have HP5 := Lib.hid (And.intro (HP.out.1.go (below_drewN' (Below.refl _ _) nq) HP.out.1.below.size) (HP.out.2.below (below_drewN' (Below.refl _ _) nq)))
        have f1 : (w4.drewN nq).cell? ⟨b4, off4 + m * 10 + 1, none⟩ = some (.int .i64 xi) := e1
        have HE := Lib.hid (And.intro e0 (And.intro e1 (And.intro e2 (And.intro e3 (And.intro e4 (And.intro e5 (And.intro e6 (And.intro e7 (And.intro e8 e9)))))))))
        have HE2 := Lib.hid (show ∀ k v, k < 10 → w4.cell? ⟨b4, off4 + m * 10 + k, none⟩ = some v → (w4.drewN nq).cell? ⟨b4, off4 + m * 10 + k, none⟩ = some v from fun k v _ h => h)
        have HB4 := Lib.hid (show b4 < (w4.drewN nq).heap.size from own_lt HP.out.1.mrow rfl)
        have cf := cfind xi (w4.drewN nq) _ p b sv E n op HP5.out.1.hist
        cases xa
        · obtain ⟨y, hy⟩ : ∃ y, (E.find? (isAns xi)).getD evZ = y := ⟨_, rfl⟩
          obtain ⟨P, hP⟩ : ∃ P, (E.find? (isAns xi)).isSome = P := ⟨_, rfl⟩
          unfold FindPost at cf
          rw [hy, hP] at cf
          obtain ⟨ya, yi, yg, yw, yt, yl, yd, ys, ye, yx⟩ := y
          rw [evc] at cf
          simp only at cf
          clear d0 d1 d2 d3 d4 d5 d6 d7 d8 d9 e0 e1 e2 e3 e4 e5 e6 e7 e8 e9 hy hP
          generalize w4.drewN nq = w5 at *
          go_wp2_with fail
          refine Calls.mono cf ?_
          rintro e w6 ⟨rfl, hb6⟩
          have hb7 := (Below.refl w6.heap.size w6).alloc (Nat.le_refl _) (.cells #[.bool ya, .int .i64 yi, .int .i64 yg, .int .i64 yw, .int .i64 yt, .int .i64 yl, .string yd, .bool ys, .int .i64 ye, .string yx] 104)
          have hb8 : Below w5.heap.size w5 (w6.alloc (.cells #[.bool ya, .int .i64 yi, .int .i64 yg, .int .i64 yw, .int .i64 yt, .int .i64 yl, .string yd, .bool ys, .int .i64 ye, .string yx] 104)) := hb6.trans (hb7.mono hb6.size)
          have HP8 := Lib.hid (And.intro (HP5.out.1.go hb8 HP5.out.1.below.size) (HP5.out.2.below hb8))
          have g0 := below_cell hb8 HB4.out (HE2.out 0 _ (by decide) HE.out.1)
          clear cf f1 hb6 hb7 hb8 HP5 HE HE2
          go_upto_region 41 with fail
          generalize w6.alloc (.cells #[.bool ya, .int .i64 yi, .int .i64 yg, .int .i64 yw, .int .i64 yt, .int .i64 yl, .string yd, .bool ys, .int .i64 ye, .string yx] 104) = w7 at *
          simp only [Nat.add_zero] at g0
          go_quiet (fail)
          have HP9 := Lib.hid (And.intro (HP8.out.1.go (below_drewN' (Below.refl _ _) nq) HP8.out.1.below.size) (HP8.out.2.below (below_drewN' (Below.refl _ _) nq)))
          go_wp2_with fail
          go_roundw
          case rel => exact ⟨m + 1, by omega, by go_num, HP9⟩
          case measure => simp [intOf]; omega
        · unfold FindPost at cf
          rw [HX.out.2.2 rfl] at cf
          simp only [Option.getD_some, Option.isSome_some] at cf
          rw [evc] at cf
          simp only at cf
          clear d0 d1 d2 d3 d4 d5 d6 d7 d8 d9 e0 e1 e2 e3 e4 e5 e6 e7 e8 e9
          generalize w4.drewN nq = w5 at *
          go_wp2_with fail
          refine Calls.mono cf ?_
          rintro e w6 ⟨rfl, hb6⟩
          have hy := heap_alloc_self w6 (.cells #[.bool true, .int .i64 xi, .int .i64 xg, .int .i64 xw, .int .i64 xt, .int .i64 xl, .string xd, .bool xs, .int .i64 xe, .string xx] 104)
          have hb7 := (Below.refl w6.heap.size w6).alloc (Nat.le_refl _) (.cells #[.bool true, .int .i64 xi, .int .i64 xg, .int .i64 xw, .int .i64 xt, .int .i64 xl, .string xd, .bool xs, .int .i64 xe, .string xx] 104)
          have hb8 : Below w5.heap.size w5 (w6.alloc (.cells #[.bool true, .int .i64 xi, .int .i64 xg, .int .i64 xw, .int .i64 xt, .int .i64 xl, .string xd, .bool xs, .int .i64 xe, .string xx] 104)) := hb6.trans (hb7.mono hb6.size)
          have HP8 := Lib.hid (And.intro (HP5.out.1.go hb8 HP5.out.1.below.size) (HP5.out.2.below hb8))
          have g0 := below_cell hb8 HB4.out (HE2.out 0 _ (by decide) HE.out.1)
          have g1 := below_cell hb8 HB4.out (HE2.out 1 _ (by decide) HE.out.2.1)
          have g2 := below_cell hb8 HB4.out (HE2.out 2 _ (by decide) HE.out.2.2.1)
          have g3 := below_cell hb8 HB4.out (HE2.out 3 _ (by decide) HE.out.2.2.2.1)
          have g4 := below_cell hb8 HB4.out (HE2.out 4 _ (by decide) HE.out.2.2.2.2.1)
          have g5 := below_cell hb8 HB4.out (HE2.out 5 _ (by decide) HE.out.2.2.2.2.2.1)
          have g6 := below_cell hb8 HB4.out (HE2.out 6 _ (by decide) HE.out.2.2.2.2.2.2.1)
          have g7 := below_cell hb8 HB4.out (HE2.out 7 _ (by decide) HE.out.2.2.2.2.2.2.2.1)
          have g8 := below_cell hb8 HB4.out (HE2.out 8 _ (by decide) HE.out.2.2.2.2.2.2.2.2.1)
          have g9 := below_cell hb8 HB4.out (HE2.out 9 _ (by decide) HE.out.2.2.2.2.2.2.2.2.2)
          clear cf f1 hb6 hb7 hb8 HP5 HE HE2
          go_upto_region 41 with fail
          generalize w6.alloc (.cells #[.bool true, .int .i64 xi, .int .i64 xg, .int .i64 xw, .int .i64 xt, .int .i64 xl, .string xd, .bool xs, .int .i64 xe, .string xx] 104) = w7 at *
          simp only [Nat.add_zero] at g0
          have z0 := scell0 hy 0 (v := .bool true) rfl
          have z1 := scell0 hy 1 (v := .int .i64 xi) rfl
          have z2 := scell0 hy 2 (v := .int .i64 xg) rfl
          have z3 := scell0 hy 3 (v := .int .i64 xw) rfl
          have z4 := scell0 hy 4 (v := .int .i64 xt) rfl
          have z5 := scell0 hy 5 (v := .int .i64 xl) rfl
          have z6 := scell0 hy 6 (v := .string xd) rfl
          have z7 := scell0 hy 7 (v := .bool xs) rfl
          have z8 := scell0 hy 8 (v := .int .i64 xe) rfl
          have z9 := scell0 hy 9 (v := .string xx) rfl
          clear hy
          go_quiet (fail)
          have HP9 := Lib.hid (And.intro (HP8.out.1.go (below_drewN' (Below.refl _ _) nq) HP8.out.1.below.size) (HP8.out.2.below (below_drewN' (Below.refl _ _) nq)))
          go_wp2_with fail
          go_roundw
          case rel => exact ⟨m + 1, by omega, by go_num, HP9⟩
          case measure => simp [intOf]; omega
      · obtain rfl : m = E.length := by omega
        go_wp2_with fail
        refine Calls.mono (awake34 _) ?_
        rintro e w5 ⟨rfl, hb5⟩
        have HB := Lib.hid (HP.out.1.below.trans (hb5.mono HP.out.1.below.size))
        clear hb5 HP
        go_wp2_with fail
        go_ret
        exact ⟨rfl, HB.out⟩
end Go.Proofs.Ytadejhlljdcocaa
