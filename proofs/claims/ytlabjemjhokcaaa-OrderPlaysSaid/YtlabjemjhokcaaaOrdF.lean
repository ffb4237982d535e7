/-
  OrderPlays' walk.
-/
import Derived.Test.YtlabjemjhokcaaaOrdE
import Derived.Test.YtlabjemjhokcaaaMask
import Derived.Test.YtlabjemjhokcaaaFits
import Derived.Deep.CutBlock
namespace Go.Proofs.Ytlabjemjhokcaaa
open Go.RowKit
set_option linter.unusedVariables false
set_option linter.unusedSimpArgs false

theorem prel_start (w : World) : PRel w.heap.size w.heap.size 0 w ((w.alloc (.cells #[.slice none 0 0] 51)).alloc (.cells #[] 3)) (.slice (some ⟨w.heap.size + 1, 0, none⟩) 0 0) (.slice none 0 0) [] := by
  have h1 : (w.alloc (.cells #[.slice none 0 0] 51)).heap.size = w.heap.size + 1 := by simp
  have hb : Below w.heap.size w ((w.alloc (.cells #[.slice none 0 0] 51)).alloc (.cells #[] 3)) := ((Below.refl _ _).alloc (Nat.le_refl _) _).alloc (by omega) _
  refine ⟨⟨Nat.le_refl _, heap_alloc_old (heap_alloc_self _ _) _, .inl ⟨rfl, rfl⟩⟩, ⟨_, 0, rfl, Nat.le_refl _, Nat.zero_le _, rfl, .inl rfl⟩, ?_, ?_, Nat.le_refl _, List.nodup_nil, hb⟩
  · intro b e
    cases e
    simp
  · intro b e
    cases e
    exact ⟨by simp, fun e => by cases e⟩

theorem prel_below {N p j : Nat} {w0 w w' : World} {mv ov : Value} {l : List Int} (hr : PRel N p j w0 w mv ov l) (hb : Below w.heap.size w w') : PRel N p j w0 w' mv ov l :=
  ⟨hr.ord.below hb, hr.mir.below hb, fun b e => Nat.lt_of_lt_of_le (hr.mlt b e) hb.size, hr.apart, hr.len, hr.once, hr.below.trans (hb.mono hr.below.size)⟩
set_option maxHeartbeats 3200000 in
set_option maxRecDepth 400000 in
theorem orderplays_law (a : Option Addr) (len cap : Nat) (w : World) (hf : Fits w (.slice (.two (.int .i64) (.two (.int .i64) .unit))) [.slice a len cap]) :
    Calls Try.prog 6 #[.slice a len cap] w fun v w' => v = .returned (.bool true) ∧ Below w.heap.size w w' := by
  obtain ⟨a', len', cap', he, hlc, hcm, hel⟩ := hf
  injection he with he1 he2
  injection he1 with e1 e2 e3
  subst e1 e2 e3
  unfold maxLen at hcm
  obtain ⟨i0, hi, hz0, hz1, hz2⟩ := info_parts oinfo
  have HEL := Lib.hid hel
  clear hel he2
  have HS := Lib.hid (prel_start w)
  go_enter Try.func6, Try.ntmps6
  go_wp2_with fail
  go_loopw [4, 5] (fun mv i wr => ∃ (j : Nat) (l : List Int) (ov : Value), j ≤ len ∧ j ≤ 60 ∧ i = .int .i64 j ∧ PRel w.heap.size w.heap.size j w wr mv ov l) (fun _ i _ => 60 - (intOf i).toNat)
  case atStart => exact ⟨0, [], _, by omega, by omega, rfl, HS.out⟩
  case round =>
    obtain ⟨j, l, ov, hj1, hj2, rfl, hr⟩ := hrel
    have hlen := hr.len
    obtain ⟨ma, mc, rfl, hmc, hmm⟩ := hr.mir.oform
    have HR := Lib.hid hr
    unfold maxLen at hmm
    clear hr HS
    by_cases hin : j < len ∧ j < 60
    · obtain ⟨hi1, hi2⟩ := hin
      obtain ⟨b, off, rfl, hbl, hel⟩ := HEL.out.resolve_left (by omega)
      obtain ⟨ys, hyl, hyc, tx, ty, rfl, ⟨tw, rfl, -⟩, tz, tu, rfl, ⟨tn, rfl, -⟩, rfl⟩ := hel j hi1
      have c0 : wr.cell? ⟨b, off + j * 2, none⟩ = some (.int .i64 tw) := by
        have := hyc 0 _ rfl
        rw [HR.out.below.cell hbl]
        simpa [Sh.size] using this
      have c1 : wr.cell? ⟨b, off + j * 2 + 1, none⟩ = some (.int .i64 tn) := by
        have := hyc 1 _ rfl
        rw [HR.out.below.cell hbl]
        simpa [Sh.size] using this
      clear hyc hyl hel
      have hy := mask7 tw
      have hy2 : 0 ≤ tw % 8 ∧ tw % 8 ≤ 7 := by omega
      rw [← hy] at hy2
      obtain ⟨X, hX⟩ : ∃ X, X = bits .and .i64 tn 15 := ⟨_, rfl⟩
      obtain ⟨Y, hY⟩ : ∃ Y, Y = bits .and .i64 tw 7 := ⟨_, rfl⟩
      rw [← hY] at hy2
      clear hy
      have HX := Lib.hid hX
      clear hX
      go_upto_region 6 with fail
      rw [← HX.out]
      go_upto_block 2 with fail
      go_cut [4, 7] (fun mv _ wx => ∃ l' ov', PRel w.heap.size w.heap.size (j + 1) w wx mv ov' l')
      case first =>
        go_wp2_with fail
        · refine Calls.mono (owithout l X _ _ HR.out.mir (by omega)) ?_
          rintro e w1 ⟨mv', rfl, hm, hb⟩
          have ho1 := HR.out.ord.below hb
          have hol := off_len l X HR.out.once
          obtain ⟨ma2, mc2, rfl, hq1, hq2⟩ := (SR.owns hm).oform
          have HM := Lib.hid hm
          have HB := Lib.hid hb
          clear hm hb
          by_cases hx : X ∈ l
          · have hlp : 0 < l.length := List.length_pos_of_mem hx
            rw [if_pos hx] at hol
            have hlt : (offL X l).length < l.length := by omega
            have hcx : l.contains X = true := by simp [hx]
            clear hol hx hlp
            obtain ⟨k, hk0⟩ : ∃ k, k = (offL X l).length := ⟨_, rfl⟩
            rw [← hk0] at hlt hq1 ⊢
            have HK0 := Lib.hid hk0
            clear hk0
            go_wp2_with fail
            refine Calls.mono (odrop l X _ _ _ _ ho1 (by omega)) ?_
            rintro e w2 ⟨rfl, ov', ho, hk⟩
            rw [hcx]
            have HP := Lib.hid (prel_drop HR.out (Nat.le_refl _) HM.out HB.out ho hk)
            clear ho hk ho1 hcx
            go_wp2_with fail
            go_meet
            exact ⟨_, _, by have := HP.out; rw [← HK0.out] at this; exact this⟩
          · rw [if_neg hx] at hol
            have hlt : ¬ ((offL X l).length < l.length) := by omega
            have hcx : l.contains X = false := by simp [hx]
            clear hol hx
            obtain ⟨k, hk0⟩ : ∃ k, k = (offL X l).length := ⟨_, rfl⟩
            rw [← hk0] at hlt hq1 ⊢
            have HK0 := Lib.hid hk0
            clear hk0
            go_wp2_with fail
            refine Calls.mono (odrop l X _ _ _ _ ho1 (by omega)) ?_
            rintro e w2 ⟨rfl, ov', ho, hk⟩
            rw [hcx]
            have HP := Lib.hid (prel_drop HR.out (Nat.le_refl _) HM.out HB.out ho hk)
            clear ho hk ho1 hcx
            go_wp2_with fail
            go_meet
            exact ⟨_, _, by have := HP.out; rw [← HK0.out] at this; exact this⟩
        · obtain hl0 | ⟨l', x, hl0⟩ : l = [] ∨ ∃ l' x, l = l' ++ [x] := by
            rcases List.eq_nil_or_concat l with h | ⟨l', x, h⟩
            · exact .inl h
            · exact .inr ⟨l', x, by rw [h, List.concat_eq_append]⟩
          · subst hl0
            refine Calls.mono (opope _ _ _ _ HR.out.ord) ?_
            rintro e w1 ⟨rfl, rfl⟩
            go_wp2_with fail
            go_meet
            exact ⟨[], ov, prel_stay HR.out⟩
          · subst hl0
            have hlx : (l' ++ [x]).length = l'.length + 1 := by simp
            refine Calls.mono (opop l' x _ _ _ _ HR.out.ord (by omega)) ?_
            rintro e w1 ⟨rfl, ov', ho, hk⟩
            have HP := Lib.hid (prel_pop HR.out (Nat.le_refl _) ho hk)
            obtain ⟨mb, moff, rfl, hcell⟩ := (sr_kept HR.out.mir HR.out.apart hk).oint (by omega)
            have cm := hcell l'.length (by omega)
            simp only [List.getD_eq_getElem?_getD, List.getElem?_append_right (Nat.le_refl _), Nat.sub_self, List.getElem?_cons_zero, Option.getD_some] at cm
            have hl3 : l'.length ≤ 59 := by omega
            rw [hlx] at hmc ⊢
            clear hcell ho hk HR hlen hlx
            go_wp2_with fail
            go_meet
            exact ⟨_, _, HP.out⟩
        · refine Calls.mono (ouse l X _ _ _ _ HR.out.ord (by omega)) ?_
          rintro e w1 ⟨rfl, ov', ho, hk⟩
          have HM := Lib.hid (sr_kept HR.out.mir HR.out.apart hk)
          have HO := Lib.hid ho
          have HK := Lib.hid hk
          have hol := off_len l X HR.out.once
          have hol2 : (offL X l).length ≤ 60 := by split at hol <;> omega
          clear ho hk hol
          go_wp2_with fail
          refine Calls.mono (owithout l X (w1.alloc (.cells #[.int .i64 X] 3)) _ (HM.out.below (below_alloc _ _ _ (Nat.le_refl _))) (by omega)) ?_
          rintro e w2 ⟨mv', rfl, hm, hb⟩
          have hrow := owns_below (World.ownsRow_lit (base := w1.heap.size) (e := 3) (size := 1) w1 #[.int .i64 X] 1 (Nat.le_refl _) (by decide) rfl) hb
          have hw2 := hb.size
          have hB2 := (below_alloc w1 (.cells #[.int .i64 X] 3) _ (Nat.le_refl _)).trans (hb.mono (by simp))
          have HM2 := Lib.hid (SR.owns hm)
          have HW := Lib.hid hrow
          have HB2 := Lib.hid hB2
          have hs2 : w1.heap.size ≤ w2.heap.size := hB2.size
          clear hm hb hrow hB2 hw2
          go_wp2_with (at_builtin; refine wp_app Try.underlying22 hi hz0 hz1 hz2 rfl (by decide) rfl (.tmp 45) (.tmp 48) rfl w1.heap.size _ 1 [.int .i64 X] rfl HW.out _ (offL X l).length (nCells (offL X l)) rfl HM2.out ?c1 ?c2 ?c3 ?c4 ?_)
          case c1 => exact nCells_one _
          case c2 => unfold maxLen; omega
          case c3 => omega
          case c4 => exact hs2
          intro v' w3 hown3 hgr
          have HG := Lib.hid hgr
          have HO3 := Lib.hid hown3
          clear hgr hown3
          go_wp2_with fail
          go_meet
          refine ⟨_, _, prel_use HR.out (Nat.le_refl _) HO.out HK.out (below_app HB2.out HG.out HW.out (Nat.le_refl _) hs2) ?_⟩
          have h3 := HO3.out
          rw [offL_erase l X HR.out.once, Nat.add_comm] at h3
          exact h3
      case rest =>
        obtain ⟨l', ov', hr⟩ := hcut
        have hlen' := hr.len
        obtain ⟨ma', mc', rfl, hq1, hq2⟩ := hr.mir.oform
        unfold maxLen at hq2
        have HP := Lib.hid hr
        clear hr HR hlen hmc hmm hY c0 c1 hy2 HEL
        obtain ⟨W0, hW0⟩ : ∃ W0, W0 = wc := ⟨_, rfl⟩
        subst hW0
        go_wp2_with fail
        refine Calls.mono (oall l' _ _ _ _ HP.out.ord (by omega)) ?_
        rintro e w1 ⟨av, rfl, ha, hb⟩
        obtain ⟨aa, ac, rfl, hq3, hq4⟩ := ha.oform
        unfold maxLen at hq4
        have HA := Lib.hid ha
        have HB := Lib.hid hb
        have HO1 := Lib.hid (HP.out.ord.below hb)
        have HM1 := Lib.hid (HP.out.mir.below hb)
        clear ha hb
        go_wp2_with fail
        refine Calls.mono (olen l' _ _ _ _ HO1.out) ?_
        rintro e w2 ⟨rfl, rfl⟩
        go_wp2_with fail
        refine Calls.mono (ohas l' X _ _ _ _ HO1.out) ?_
        rintro e w2 ⟨rfl, rfl⟩
        go_wp2_with fail
        refine Calls.mono (owithout l' X _ _ HM1.out (by omega)) ?_
        rintro e w2 ⟨mv', rfl, hm, hb2⟩
        obtain ⟨ma2, mc2, rfl, _, _⟩ := (SR.owns hm).oform
        have HA2 := Lib.hid (HA.out.below hb2)
        have HM2 := Lib.hid (HM1.out.below hb2)
        have hol := off_len l' X HP.out.once
        have HB2 := Lib.hid hb2
        clear hm hb2
        have hd : decide (X ∈ l') = decide ((offL X l').length < l'.length) := by
          by_cases hx : X ∈ l'
          · have hlp : 0 < l'.length := List.length_pos_of_mem hx
            rw [if_pos hx] at hol
            rw [decide_eq_true hx, decide_eq_true (by omega)]
          · rw [if_neg hx] at hol
            rw [decide_eq_false hx, decide_eq_false (by omega)]
        have HD := Lib.hid hd
        clear hd
        clear hol
        go_wp2_with fail
        · rename_i hx
          rw [HD.out] at hx
          simp at hx
        · have HE := Lib.hid (prel_below (prel_below HP.out HB.out) HB2.out)
          clear HP HB HB2 HO1 HM1 HA
          go_loopw [11] (fun i wx => ∃ k t : Nat, k ≤ l'.length ∧ i = .int .i64 k ∧ wx = w2.drewN t) (fun i _ => l'.length - (intOf i).toNat)
          case atStart => exact ⟨0, 0, Nat.zero_le _, rfl, rfl⟩
          case round =>
            obtain ⟨k, t, hk, rfl, rfl⟩ := hrel
            by_cases hlt : k < l'.length
            · obtain ⟨b1, o1, rfl, hcell1⟩ := HA2.out.oint (by omega)
              obtain ⟨b2, o2, rfl, hcell2⟩ := HM2.out.oint (by omega)
              have hc1 := hcell1 k hlt
              have hc2 := hcell2 k hlt
              obtain ⟨x, hx⟩ : ∃ x, x = l'.getD k 0 := ⟨_, rfl⟩
              rw [← hx] at hc1 hc2
              clear hcell1 hcell2 hx
              go_wp2_with fail
              go_quiet (fail)
              go_wp2_with fail
              go_roundw
              case rel => exact ⟨k + 1, _, by omega, by simp, rfl⟩
              case measure => simp [intOf]; omega
            · go_wp2_with fail
              go_roundw
              case rel => exact ⟨j + 1, l', ov', by omega, by omega, by simp, prel_below HE.out ⟨rfl, rfl, rfl, Nat.le_refl _, fun _ _ => rfl⟩⟩
              case measure => simp [intOf]; omega
    · go_wp2_with fail
      all_goals
        refine Calls.mono (oawake _) ?_
        rintro e w1 ⟨rfl, hb⟩
        go_wp2_with fail
        go_ret
        exact ⟨rfl, HR.out.below.trans (hb.mono HR.out.below.size)⟩
end Go.Proofs.Ytlabjemjhokcaaa
