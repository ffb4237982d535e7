/-
  ItemsPlay's walk.
-/
import Derived.Test.YtoonlhjldkkanaaItsA
namespace Go.Proofs.Ytoonlhjldkkanaa
open Go.RowKit
set_option linter.unusedVariables false
set_option linter.unusedSimpArgs false

abbrev actSh : Sh := .two (.int .i64) (.two (.int .i64) (.two (.two (.int .u64) (.two .str .unit)) .unit))
/-- the cells of an act that came in -/
theorem act_cells {w : World} {b off j : Nat} (h : ∃ ys, ys.length = actSh.size ∧ (∀ (k : Nat) u, ys[k]? = some u → w.cell? ⟨b, off + j * actSh.size + k, none⟩ = some u) ∧ Fits w actSh ys) :
    ∃ tw tb tv td, w.cell? ⟨b, off + j * 4, none⟩ = some (.int .i64 tw) ∧ w.cell? ⟨b, off + j * 4 + 1, none⟩ = some (.int .i64 tb) ∧ w.cell? ⟨b, off + j * 4 + 2, none⟩ = some (.int .u64 tv) ∧ w.cell? ⟨b, off + j * 4 + 3, none⟩ = some (.string td) ∧ td.size ≤ maxLen := by
  obtain ⟨ys, hl, hc, x0, y0, rfl, ⟨tw, rfl, -⟩, x1, y1, rfl, ⟨tb, rfl, -⟩, x2, y2, rfl, ⟨x3, y3, rfl, ⟨tv, rfl, -⟩, x4, y4, rfl, ⟨td, rfl, hd⟩, rfl⟩, rfl⟩ := h
  exact ⟨tw, tb, tv, td, hc 0 _ rfl, hc 1 _ rfl, hc 2 _ rfl, hc 3 _ rfl, hd⟩
theorem put_len {m : Bool} {l : List HI} {x : HI} : (putL m l x).length ≤ l.length + 1 := by
  unfold putL
  split
  · induction l with
    | nil => simp [layL]
    | cons h t ih =>
      unfold layL
      split
      · simpa using ih
      · split
        · split <;> simp
        · simp
  · omega
theorem item_neq (x : Int) (s : ByteArray) (w : World) (hx : (Lit.int .u64 x).wf = true) (hs : s.size ≤ maxLen) :
    (binOp .neq 24 (.agg #[.int .u64 x, .string s]) (.agg #[.int .u64 x, .string s])).run Try.prog w = .ok (.bool false) w :=
  (eq_deep (m := 4) (D := 4) (D' := 4) itemkey (by decide) (item_formed x s) (item_formed x s) (item_lits x s hx hs) (item_lits x s hx hs) true (by simp) w).2
theorem get_wf {l : List HI} (h : Srt l) (b : Int) : (Lit.int .u64 (gv (getL l b))).wf = true ∧ (gd (getL l b)).size ≤ maxLen := by
  cases hg : getL l b with
  | none => exact ⟨by decide, by decide⟩
  | some x =>
    have hm : x ∈ l := List.mem_of_find?_eq_some hg
    obtain ⟨-, h2, h3⟩ := good_wf (h.all x hm)
    exact ⟨h2, h3⟩
set_option maxHeartbeats 3200000 in
set_option maxRecDepth 400000 in
theorem itemsplay_law (a : Option Addr) (len cap : Nat) (w : World) (hf : Fits w (.slice actSh) [.slice a len cap]) :
    Calls Try.prog 4 #[.slice a len cap] w fun e w' => e = .returned (.bool true) ∧ Below w.heap.size w w' := by
  obtain ⟨hlc, hcm, hel⟩ := hf.slice
  unfold maxLen at hcm
  have HEL := Lib.hid hel
  have HS := Lib.hid (irel_start w)
  have hitem : ∀ (x : Int) (D : ByteArray), itemA x D = #[.int .u64 x, .string D] := fun _ _ => rfl
  clear hel hf
  go_enter Try.func4, Try.ntmps4
  go_wp2_with fail
  refine Calls.mono (snew _) ?_
  rintro e w1 ⟨rfl, rfl⟩
  go_wp2_with fail
  go_loopw [4, 5] (fun mv i wr => ∃ (j : Nat) (l : List HI) (sv : Value), j ≤ len ∧ j ≤ 60 ∧ i = .int .i64 j ∧ Hid (IRel w wr w.heap.size mv sv l)) (fun _ i _ => 60 - (intOf i).toNat)
  case atStart => exact ⟨0, [], _, by omega, by omega, rfl, HS⟩
  case round =>
    obtain ⟨j, l, sv, hj1, hj2, rfl, HR⟩ := hrel
    obtain ⟨ma, mc, rfl, hmc, hmm⟩ := HR.out.mir.form
    unfold maxLen at hmm
    clear HS
    by_cases hin : j < len ∧ j < 60
    · obtain ⟨hi1, hi2⟩ := hin
      obtain ⟨b, off, rfl, hbl, hel⟩ := HEL.out.resolve_left (by omega)
      obtain ⟨tw, tb, tv, td, c0, c1, c2, c3, hd⟩ := act_cells (hel j hi1)
      rw [← HR.out.below.cell hbl] at c0 c1 c2 c3
      have hbA := (Below.refl wr.heap.size wr).alloc (Nat.le_refl _) (.cells #[.int .i64 tw, .int .i64 tb, .int .u64 tv, .string td] 40)
      have yA := heap_alloc_self wr (.cells #[.int .i64 tw, .int .i64 tb, .int .u64 tv, .string td] 40)
      have cn := fun w odd => near08 tv td odd w hd
      simp only [hitem] at cn
      clear hel hd
      go_upto_region 6 with fail
      generalize wr.alloc (.cells #[.int .i64 tw, .int .i64 tb, .int .u64 tv, .string td] 40) = wA at *
      have a0 : wA.cell? ⟨wr.heap.size, 0, none⟩ = some (.int .i64 tw) := by simp [World.cell?, yA]
      have a2 : wA.cell? ⟨wr.heap.size, 2, none⟩ = some (.int .u64 tv) := by simp [World.cell?, yA]
      have a3 : wA.cell? ⟨wr.heap.size, 3, none⟩ = some (.string td) := by simp [World.cell?, yA]
      clear c0 c1 c2 c3
      have HYA := Lib.hid yA
      have HBA := Lib.hid hbA
      clear yA hbA
      go_wp2_with fail
      refine Calls.mono (cn _ _) ?_
      rintro e w2 ⟨dl, hdl, rfl, hb2⟩
      obtain ⟨D, hD⟩ : ∃ D : ByteArray, ⟨dl.toArray⟩ = D := ⟨_, rfl⟩
      have hDs : D.size ≤ 40 := by rw [← hD]; exact hdl
      rw [hD]
      clear hD hdl
      have yA := below_at hb2 (lt_heap HYA.out) HYA.out
      have hbB := HBA.out.trans (hb2.mono HBA.out.size)
      have hbX := hbB.alloc hbB.size (.cells #[.int .u64 tv, .string D] 24)
      have yX := heap_alloc_self w2 (.cells #[.int .u64 tv, .string D] 24)
      have yA2 := alloc_far (o := .cells #[.int .u64 tv, .string D] 24) yA
      have hle := hbB.size
      clear yA hbB hb2 a0 a2 a3 HYA HBA cn
      go_upto_region 7 with fail
      generalize w2.alloc (.cells #[.int .u64 tv, .string D] 24) = wX at *
      obtain ⟨x0, x1, f0, f1⟩ := item_cells yX
      obtain ⟨V, hV⟩ : ∃ V, V = bits .and .u64 tv 15 := ⟨_, rfl⟩
      have hVw : (Lit.int .u64 V).wf = true := by rw [hV]; exact u64_and _ _
      have yX2 : (wX.setCell ⟨w2.heap.size, 0, none⟩ (.int .u64 V)).heap[w2.heap.size]? = some (.cells #[.int .u64 V, .string D] 24) := by simpa using heap_set_self yX 0 (.int .u64 V)
      have hne : wr.heap.size ≠ w2.heap.size := fun e => by rw [e, yX] at yA2; cases yA2
      have yA3 : (wX.setCell ⟨w2.heap.size, 0, none⟩ (.int .u64 V)).heap[wr.heap.size]? = some (.cells #[.int .i64 tw, .int .i64 tb, .int .u64 tv, .string td] 40) := by rw [heap_setCell_other _ _ _ _ hne]; exact yA2
      have hbY := hbX.setCell (p := ⟨w2.heap.size, 0, none⟩) hle (.int .u64 V)
      have HB := Lib.hid hbY
      have HXX := Lib.hid yX2
      have HAA := Lib.hid yA3
      clear hbX yX yA2 hne hbY yX2 yA3
      go_upto_region 8 with fail
      rw [← hV]
      generalize wX.setCell ⟨w2.heap.size, 0, none⟩ (.int .u64 V) = wY at *
      clear x0 x1 f0 f1
      have HR2 := Lib.hid (HR.out.go HB.out)
      have HIA := Lib.hid (IBlk.new HR.out HAA.out (Nat.le_refl _))
      have HIX := Lib.hid (IBlk.new HR.out HXX.out hle)
      have a0 : wY.cell? ⟨wr.heap.size, 0, none⟩ = some (.int .i64 tw) := by simp [World.cell?, HAA.out]
      obtain ⟨wh, hwh⟩ : ∃ wh, bits .and .i64 tw 7 = wh := ⟨_, rfl⟩
      clear HB HXX HAA hV HR hle
      obtain ⟨A, hA⟩ : ∃ A, wr.heap.size = A := ⟨_, rfl⟩
      obtain ⟨X, hX⟩ : ∃ X, w2.heap.size = X := ⟨_, rfl⟩
      rw [hA] at HIA a0
      rw [hX] at HIX
      try rw [hA]
      try rw [hX]
      clear hA hX
      go_upto_if 45 with fail
      go_cut [4] (fun mv wx => ∃ (l' : List HI) (sv' : Value), Hid (IRel w wx w.heap.size mv sv' l') ∧ Hid (IBlk wx w.heap.size sv' A (.cells #[.int .i64 tw, .int .i64 tb, .int .u64 tv, .string td] 40)) ∧ Hid (IBlk wx w.heap.size sv' X (.cells #[.int .u64 V, .string D] 24)))
      case first =>
        have a1 : wY.cell? ⟨A, 1, none⟩ = some (.int .i64 tb) := by simp [World.cell?, HIA.out.at_]
        obtain ⟨x0, x1, -, -⟩ := item_cells HIX.out.at_
        have hsrt := HR2.out.set.2.2.2
        by_cases hw4 : wh = 4
        · subst hw4
          have cd := rdrop l tb V _ _ hsrt HR2.out.mir
          go_wp2_with fail
          refine Calls.mono cd ?_
          rintro e w3 ⟨v', rfl, hm3, hb3⟩
          have HS3 := Lib.hid (HR2.out.set.below hb3)
          have hA3 := HIA.out.go hb3
          have hX3 := HIX.out.go hb3
          have HM3 := Lib.hid hm3
          have HB3 := Lib.hid hb3
          have cs := sdrop _ _ _ _ _ HS3.out tb V
          clear a0 a1 x0 x1 cd hm3 hb3
          have a1 : w3.cell? ⟨A, 1, none⟩ = some (.int .i64 tb) := by simp [World.cell?, hA3.at_]
          obtain ⟨x0, x1, -, -⟩ := item_cells hX3.at_
          obtain ⟨q, hq⟩ : ∃ q, dropsL l tb V = q := ⟨_, rfl⟩
          rw [hq] at cs ⊢
          have HA3 := Lib.hid hA3
          have HX3 := Lib.hid hX3
          clear hA3 hX3 hq
          go_wp2_with fail
          refine Calls.mono cs ?_
          rintro e w4 ⟨rfl, sv', hs4, hk4⟩
          have H4 := Lib.hid (HR2.out.drop HB3.out HM3.out hs4 hk4)
          have HA4 := Lib.hid (HA3.out.step hk4)
          have HX4 := Lib.hid (HX3.out.step hk4)
          clear hs4 hk4 a1 x0 x1 cs
          go_wp2_with fail
          go_meet
          exact ⟨_, _, H4, HA4, HX4⟩
        · have hw4' : (wh == 4) = false := by simpa using hw4
          obtain ⟨m, hm, -, -⟩ := may_cases V D
          have cd := rlay l ⟨tb, V, D⟩ m _ _ hsrt HR2.out.mir hVw hDs hm
          simp only [hitem] at cd
          go_wp2_with fail
          refine Calls.mono cd ?_
          rintro e w3 ⟨v', rfl, hm3, hn3, hlt3, hb3⟩
          have HS3 := Lib.hid (HR2.out.set.below hb3)
          have hA3 := HIA.out.go hb3
          have hX3 := HIX.out.go hb3
          have HM3 := Lib.hid hm3
          have HN3 := Lib.hid hn3
          have HL3 := Lib.hid hlt3
          have HB3 := Lib.hid hb3
          have cs := sput _ _ _ _ _ HS3.out ⟨tb, V, D⟩ m hm hVw hDs
          simp only [hitem] at cs
          clear a0 a1 x0 x1 cd hm3 hb3 hn3 hlt3
          have a1 : w3.cell? ⟨A, 1, none⟩ = some (.int .i64 tb) := by simp [World.cell?, hA3.at_]
          obtain ⟨x0, x1, -, -⟩ := item_cells hX3.at_
          obtain ⟨q, hq⟩ : ∃ q, putsL m l ⟨tb, V, D⟩ = q := ⟨_, rfl⟩
          rw [hq] at cs ⊢
          have HA3 := Lib.hid hA3
          have HX3 := Lib.hid hX3
          clear hA3 hX3 hq
          go_wp2_with fail
          refine Calls.mono cs ?_
          rintro e w4 ⟨rfl, sv', hs4, hk4⟩
          have H4 := Lib.hid (HR2.out.lay HB3.out HM3.out HN3.out HL3.out hs4 hk4)
          have HA4 := Lib.hid (HA3.out.step hk4)
          have HX4 := Lib.hid (HX3.out.step hk4)
          clear hs4 hk4 a1 x0 x1 cs
          go_wp2_with fail
          go_meet
          exact ⟨_, _, H4, HA4, HX4⟩
      case rest =>
        obtain ⟨l', sv', HR3, HA3, HX3⟩ := hcut
        obtain ⟨W0, hW0⟩ : ∃ W0, W0 = wc := ⟨_, rfl⟩
        subst hW0
        obtain ⟨ma', mc', rfl, hq1, hq2⟩ := HR3.out.mir.form
        unfold maxLen at hq2
        have a1 : W0.cell? ⟨A, 1, none⟩ = some (.int .i64 tb) := by simp [World.cell?, HA3.out.at_]
        have cg := sget _ _ _ _ _ HR3.out.set tb
        simp only [hitem] at cg
        clear HR2 HIA HIX a0 hmc hmm
        go_wp2_with fail
        refine Calls.mono cg ?_
        rintro e w3 ⟨rfl, hb3⟩
        obtain ⟨hGw, hGs⟩ := get_wf HR3.out.set.2.2.2 tb
        have hneq := fun w => item_neq (gv (getL l' tb)) (gd (getL l' tb)) w hGw hGs
        have cr := fun w hw => rget l' tb w _ (HR3.out.mir.below (w' := w) hw)
        simp only [hitem] at cr
        obtain ⟨G, hG⟩ : ∃ G, gv (getL l' tb) = G := ⟨_, rfl⟩
        obtain ⟨GD, hGD⟩ : ∃ GD, gd (getL l' tb) = GD := ⟨_, rfl⟩
        obtain ⟨is, hIs⟩ : ∃ is, (getL l' tb).isSome = is := ⟨_, rfl⟩
        rw [hG, hGD, hIs] at cr
        rw [hG, hGD] at hneq
        rw [hG, hGD, hIs]
        have hbY := hb3.alloc hb3.size (.cells #[.int .u64 G, .string GD] 24)
        have yY := heap_alloc_self w3 (.cells #[.int .u64 G, .string GD] 24)
        clear hb3 hGw hGs hG hGD hIs a1 cg
        go_upto_region 18 with fail
        generalize w3.alloc (.cells #[.int .u64 G, .string GD] 24) = w4 at *
        have hA4 := HA3.out.go hbY
        have a1 : w4.cell? ⟨A, 1, none⟩ = some (.int .i64 tb) := by simp [World.cell?, hA4.at_]
        clear hA4
        go_wp2_with fail
        refine Calls.mono (cr _ hbY) ?_
        rintro e w5 ⟨rfl, hb5⟩
        have hbZ := hbY.trans (hb5.mono hbY.size)
        have yY5 := below_at hb5 (lt_heap yY) yY
        have hbF := hbZ.alloc hbZ.size (.cells #[.int .u64 G, .string GD] 24)
        have yZ := heap_alloc_self w5 (.cells #[.int .u64 G, .string GD] 24)
        have yY6 := alloc_far (o := .cells #[.int .u64 G, .string GD] 24) yY5
        clear hbY hb5 hbZ yY yY5 a1 cr
        go_upto_region 19 with fail
        generalize w5.alloc (.cells #[.int .u64 G, .string GD] 24) = w6 at *
        obtain ⟨y0, y1, -, -⟩ := item_cells yY6
        obtain ⟨z0, z1, -, -⟩ := item_cells yZ
        have HR6 := Lib.hid (HR3.out.go hbF)
        have hg := itemguard
        clear HR3 HA3 HX3 yY6 yZ hbF
        go_wp2_with fail
        refine Calls.mono (slen _ _ _ _ _ HR6.out.set) ?_
        rintro e w7 ⟨rfl, rfl⟩
        go_wp2_with fail
        refine Calls.mono (sall _ _ _ _ _ HR6.out.set) ?_
        rintro e w7 ⟨v7, rfl, hr7, hb7⟩
        obtain ⟨a7, c7, rfl, -, -⟩ := (SR.owns hr7).form
        have H7 := Lib.hid (SR.owns hr7)
        have HR7 := Lib.hid (HR6.out.go hb7)
        clear hr7 hb7 y0 y1 z0 z1
        go_wp2_with fail
        refine Calls.mono (rsame l' _ _ _ H7.out HR7.out.mir HR7.out.set.2.2.2.all) ?_
        rintro e w8 ⟨rfl, hb8⟩
        have HR8 := Lib.hid (HR7.out.go hb8)
        clear hb8
        go_wp2_with fail
        go_roundw
        case rel => exact ⟨j + 1, l', sv', by omega, by omega, by go_num, HR8⟩
        case measure => simp [intOf]; omega
    · go_wp2_with fail
      all_goals
        refine Calls.mono (awake09 _) ?_
        rintro e w1 ⟨rfl, hb⟩
        go_wp2_with fail
        go_ret
        exact ⟨rfl, HR.out.below.trans (hb.mono HR.out.below.size)⟩
end Go.Proofs.Ytoonlhjldkkanaa
