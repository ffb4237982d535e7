/-
  sched: no acts; the waking call of layer 42.
-/
import Derived.Test.YtfgmeeponipjeaaShdF
namespace Go.Proofs.Ytfgmeeponipjeaa
open Go.RowKit
set_option linter.unusedVariables false
set_option linter.unusedSimpArgs false

theorem sactsN (g : Nat) (m b : Int) (w : World) (hm : m < 0) : Calls Try.prog 26 #[.pointer (some ⟨g, 0, none⟩), .int .i64 m, .int .i64 b] w fun e w' => e = .returned (.slice none 0 0) ∧ w' = w := by
  have hmin : min m 2000 = m := by omega
  have hmin2 : (if (2000 : Int) < m then (2000 : Int) else m) = m := by split <;> omega
  have h0 : ¬ 0 < m := by omega
  go_enter Try.func26, Try.ntmps26
  go_wp2_with fail
  go_loopw [7, 12] (fun sv iv wr => sv = .slice none 0 0 ∧ iv = .int .i64 0 ∧ wr = w) (fun _ _ _ => 0)
  case atStart => exact ⟨rfl, rfl, rfl⟩
  case round =>
    obtain ⟨rfl, rfl, hwr⟩ := hrel
    subst hwr
    go_wp2_with fail
    go_ret
    exact ⟨rfl, rfl⟩
set_option maxHeartbeats 3200000 in
set_option maxRecDepth 100000 in
theorem sactZ (g : Nat) (s b : Int) (w : World) (h : w.heap[g]? = some (.cells (zeroC s) 109)) : Calls Try.prog 27 #[.pointer (some ⟨g, 0, none⟩), .int .i64 b] w fun e w' => e = .returned (.tuple #[.agg #[.int .i64 0, .int .i64 0, .int .i64 0, .int .i64 0, .int .i64 0, .int .i64 0, .int .i64 0, .string ⟨#[]⟩, .bool false, .slice none 0 0, .slice none 0 0, .string ⟨#[]⟩], .bool false]) ∧ Below w.heap.size w w' := by
  have hx := heap_alloc_self w (.cells #[.int .i64 0, .int .i64 0, .int .i64 0, .int .i64 0, .int .i64 0, .int .i64 0, .int .i64 0, .string ⟨#[]⟩, .bool false, .slice none 0 0, .slice none 0 0, .string ⟨#[]⟩] 72)
  have hb0 := (Below.refl w.heap.size w).alloc (Nat.le_refl _) (.cells #[.int .i64 0, .int .i64 0, .int .i64 0, .int .i64 0, .int .i64 0, .int .i64 0, .int .i64 0, .string ⟨#[]⟩, .bool false, .slice none 0 0, .slice none 0 0, .string ⟨#[]⟩] 72)
  have ck := fun w h => skindZ g s w h
  have hg := below_at hb0 (lt_heap h) h
  have H0 := Lib.hid (And.intro hx hb0)
  clear hx hb0 h
  go_enter Try.func27, Try.ntmps27
  go_upto_region 1 with fail
  generalize w.alloc (.cells #[.int .i64 0, .int .i64 0, .int .i64 0, .int .i64 0, .int .i64 0, .int .i64 0, .int .i64 0, .string ⟨#[]⟩, .bool false, .slice none 0 0, .slice none 0 0, .string ⟨#[]⟩] 72) = w0 at *
  have cc := ck w0 hg
  clear ck hg
  go_wp2_with fail
  refine Calls.mono cc ?_
  rintro e w1 ⟨rfl, hw1⟩
  subst hw1
  clear cc
  have z0 := cellG H0.out.1 0 (v := .int .i64 0) rfl
  have g0 := frzG H0.out.1 0
  have z1 := cellG H0.out.1 1 (v := .int .i64 0) rfl
  have g1 := frzG H0.out.1 1
  have z2 := cellG H0.out.1 2 (v := .int .i64 0) rfl
  have g2 := frzG H0.out.1 2
  have z3 := cellG H0.out.1 3 (v := .int .i64 0) rfl
  have g3 := frzG H0.out.1 3
  have z4 := cellG H0.out.1 4 (v := .int .i64 0) rfl
  have g4 := frzG H0.out.1 4
  have z5 := cellG H0.out.1 5 (v := .int .i64 0) rfl
  have g5 := frzG H0.out.1 5
  have z6 := cellG H0.out.1 6 (v := .int .i64 0) rfl
  have g6 := frzG H0.out.1 6
  have z7 := cellG H0.out.1 7 (v := .string ⟨#[]⟩) rfl
  have g7 := frzG H0.out.1 7
  have z8 := cellG H0.out.1 8 (v := .bool false) rfl
  have g8 := frzG H0.out.1 8
  have z9 := cellG H0.out.1 9 (v := .slice none 0 0) rfl
  have g9 := frzG H0.out.1 9
  have z10 := cellG H0.out.1 10 (v := .slice none 0 0) rfl
  have g10 := frzG H0.out.1 10
  have z11 := cellG H0.out.1 11 (v := .string ⟨#[]⟩) rfl
  have g11 := frzG H0.out.1 11
  go_wp2_with fail
  have k := over12 H0.out.1 (.int .i64 0) (.int .i64 0) (.int .i64 0) (.int .i64 0) (.int .i64 0) (.int .i64 0) (.int .i64 0) (.string ⟨#[]⟩) (.bool false) (.slice none 0 0) (.slice none 0 0) (.string ⟨#[]⟩)
  have FO := Lib.hid (show Below w.heap.size w ((((((((((((w1.setCell ⟨w.heap.size, 0, none⟩ (.int .i64 0)).setCell ⟨w.heap.size, 1, none⟩ (.int .i64 0)).setCell ⟨w.heap.size, 2, none⟩ (.int .i64 0)).setCell ⟨w.heap.size, 3, none⟩ (.int .i64 0)).setCell ⟨w.heap.size, 4, none⟩ (.int .i64 0)).setCell ⟨w.heap.size, 5, none⟩ (.int .i64 0)).setCell ⟨w.heap.size, 6, none⟩ (.int .i64 0)).setCell ⟨w.heap.size, 7, none⟩ (.string ⟨#[]⟩)).setCell ⟨w.heap.size, 8, none⟩ (.bool false)).setCell ⟨w.heap.size, 9, none⟩ (.slice none 0 0)).setCell ⟨w.heap.size, 10, none⟩ (.slice none 0 0)).setCell ⟨w.heap.size, 11, none⟩ (.string ⟨#[]⟩)) from ((((((((((((H0.out.2).setCell (p := ⟨w.heap.size, 0, none⟩) (Nat.le_refl _) (.int .i64 0)).setCell (p := ⟨w.heap.size, 1, none⟩) (Nat.le_refl _) (.int .i64 0)).setCell (p := ⟨w.heap.size, 2, none⟩) (Nat.le_refl _) (.int .i64 0)).setCell (p := ⟨w.heap.size, 3, none⟩) (Nat.le_refl _) (.int .i64 0)).setCell (p := ⟨w.heap.size, 4, none⟩) (Nat.le_refl _) (.int .i64 0)).setCell (p := ⟨w.heap.size, 5, none⟩) (Nat.le_refl _) (.int .i64 0)).setCell (p := ⟨w.heap.size, 6, none⟩) (Nat.le_refl _) (.int .i64 0)).setCell (p := ⟨w.heap.size, 7, none⟩) (Nat.le_refl _) (.string ⟨#[]⟩)).setCell (p := ⟨w.heap.size, 8, none⟩) (Nat.le_refl _) (.bool false)).setCell (p := ⟨w.heap.size, 9, none⟩) (Nat.le_refl _) (.slice none 0 0)).setCell (p := ⟨w.heap.size, 10, none⟩) (Nat.le_refl _) (.slice none 0 0)).setCell (p := ⟨w.heap.size, 11, none⟩) (Nat.le_refl _) (.string ⟨#[]⟩))
  generalize ((((((((((((w1.setCell ⟨w.heap.size, 0, none⟩ (.int .i64 0)).setCell ⟨w.heap.size, 1, none⟩ (.int .i64 0)).setCell ⟨w.heap.size, 2, none⟩ (.int .i64 0)).setCell ⟨w.heap.size, 3, none⟩ (.int .i64 0)).setCell ⟨w.heap.size, 4, none⟩ (.int .i64 0)).setCell ⟨w.heap.size, 5, none⟩ (.int .i64 0)).setCell ⟨w.heap.size, 6, none⟩ (.int .i64 0)).setCell ⟨w.heap.size, 7, none⟩ (.string ⟨#[]⟩)).setCell ⟨w.heap.size, 8, none⟩ (.bool false)).setCell ⟨w.heap.size, 9, none⟩ (.slice none 0 0)).setCell ⟨w.heap.size, 10, none⟩ (.slice none 0 0)).setCell ⟨w.heap.size, 11, none⟩ (.string ⟨#[]⟩)) = wF at *
  have s0 := cellG k 0 (v := .int .i64 0) rfl
  have s1 := cellG k 1 (v := .int .i64 0) rfl
  have s2 := cellG k 2 (v := .int .i64 0) rfl
  have s3 := cellG k 3 (v := .int .i64 0) rfl
  have s4 := cellG k 4 (v := .int .i64 0) rfl
  have s5 := cellG k 5 (v := .int .i64 0) rfl
  have s6 := cellG k 6 (v := .int .i64 0) rfl
  have s7 := cellG k 7 (v := .string ⟨#[]⟩) rfl
  have s8 := cellG k 8 (v := .bool false) rfl
  have s9 := cellG k 9 (v := .slice none 0 0) rfl
  have s10 := cellG k 10 (v := .slice none 0 0) rfl
  have s11 := cellG k 11 (v := .string ⟨#[]⟩) rfl
  refine bodyPost_ret (v := .tuple #[.agg #[.int .i64 0, .int .i64 0, .int .i64 0, .int .i64 0, .int .i64 0, .int .i64 0, .int .i64 0, .string ⟨#[]⟩, .bool false, .slice none 0 0, .slice none 0 0, .string ⟨#[]⟩], .bool false]) (by simp [results, Try.results27, go_sem, s0, s1, s2, s3, s4, s5, s6, s7, s8, s9, s10, s11]) rfl ?_
  exact ⟨rfl, FO.out⟩
set_option maxHeartbeats 3200000 in
set_option maxRecDepth 100000 in
theorem sactsZ (g n : Nat) (s b : Int) (w : World) (h : w.heap[g]? = some (.cells (zeroC s) 109)) (hn : n ≤ 63) : Calls Try.prog 26 #[.pointer (some ⟨g, 0, none⟩), .int .i64 (n : Nat), .int .i64 b] w fun e w' => e = .returned (.slice none 0 0) ∧ Below w.heap.size w w' := by
  have hmin : min (n : Int) 2000 = n := by omega
  have hmin2 : (if (2000 : Int) < n then (2000 : Int) else (n : Int)) = n := by split <;> omega
  have ca := sactZ g s b w h
  clear h
  go_enter Try.func26, Try.ntmps26
  go_wp2_with fail
  go_loopw [7, 12] (fun sv iv wr => sv = .slice none 0 0 ∧ iv = .int .i64 0 ∧ wr = w) (fun _ _ _ => 0)
  case atStart => exact ⟨rfl, rfl, rfl⟩
  case round =>
    obtain ⟨rfl, rfl, hwr⟩ := hrel
    subst hwr
    by_cases hn0 : 0 < n
    · go_wp2_with fail
      refine Calls.mono ca ?_
      rintro e w1 ⟨rfl, hb1⟩
      have HB := Lib.hid (hb1.alloc hb1.size (.cells #[.int .i64 0, .int .i64 0, .int .i64 0, .int .i64 0, .int .i64 0, .int .i64 0, .int .i64 0, .string ⟨#[]⟩, .bool false, .slice none 0 0, .slice none 0 0, .string ⟨#[]⟩] 72))
      clear ca hb1
      go_wp2_with fail
      go_ret
      exact ⟨rfl, HB.out⟩
    · obtain rfl : n = 0 := by omega
      go_wp2_with fail
      go_ret
      exact ⟨rfl, Below.refl _ _⟩
set_option maxHeartbeats 6400000 in
set_option maxRecDepth 100000 in
theorem awake42s (w : World) : Calls Try.prog 28 #[] w fun e w' => e = .returned (.bool true) ∧ Below w.heap.size w w' := by
  have c0 := fun w => seven w
  have c1 := fun w => snewE 7 w
  have c2 := fun w => snewE 1 w
  obtain ⟨R, hR⟩ : ∃ R, (actF 7 8).1 = R := ⟨_, rfl⟩
  have ca := fun g w h => sact g 7 8 w h (by decide) (by decide)
  rw [hR] at ca
  have cs := fun g w h => sacts g 5 1 8 w h (by decide) (by decide) (by decide)
  rw [show ((5 : Nat) : Int) = 5 from rfl] at cs
  unfold actC at ca
  clear hR
  go_enter Try.func28, Try.ntmps28
  go_wp2_with fail
  refine Calls.mono (c0 _) ?_
  rintro e w1 ⟨rfl, hb1⟩
  have HB1 := Lib.hid hb1
  clear hb1
  go_wp2_with fail
  refine Calls.mono (c1 _) ?_
  rintro e w2 ⟨g, rfl, hg2, hgs, hb2⟩
  have HB2 := Lib.hid (HB1.out.trans (hb2.mono HB1.out.size))
  have HG := Lib.hid (show w.heap.size ≤ g from Nat.le_trans HB1.out.size hgs)
  have cc := ca g w2 hg2
  clear hb2 hg2 hgs HB1
  go_wp2_with fail
  refine Calls.mono cc ?_
  rintro e w3 ⟨ma, mk, ca', ck, rfl, hrw, hs3, ho3⟩
  have hy := heap_alloc_self w3 (.cells #[.int .i64 R.k, .int .i64 R.who, .int .i64 R.a, .int .i64 R.b, .int .i64 R.aw, .int .i64 R.aa, .int .i64 R.al, .string R.ad, .bool R.sur, .slice ma R.M.length mk, .slice ca' R.C.length ck, .string R.S] 72)
  have hb4 := (Below.refl w3.heap.size w3).alloc (Nat.le_refl _) (.cells #[.int .i64 R.k, .int .i64 R.who, .int .i64 R.a, .int .i64 R.b, .int .i64 R.aw, .int .i64 R.aa, .int .i64 R.al, .string R.ad, .bool R.sur, .slice ma R.M.length mk, .slice ca' R.C.length ck, .string R.S] 72)
  have hb3 := HB2.out.trans (ho3.below HG.out HB2.out.size)
  have H4 := Lib.hid (And.intro hy (hb3.trans (hb4.mono hb3.size)))
  clear hrw hs3 ho3 hy hb4 hb3 cc HB2
  go_upto_region 2 with fail
  generalize w3.alloc (.cells #[.int .i64 R.k, .int .i64 R.who, .int .i64 R.a, .int .i64 R.b, .int .i64 R.aw, .int .i64 R.aa, .int .i64 R.al, .string R.ad, .bool R.sur, .slice ma R.M.length mk, .slice ca' R.C.length ck, .string R.S] 72) = w4 at *
  obtain ⟨A1, hA1⟩ : ∃ A, w3.heap.size = A := ⟨_, rfl⟩
  rw [hA1] at H4 ⊢
  clear hA1
  go_wp2_with fail
  refine Calls.mono (c0 _) ?_
  rintro e w5 ⟨rfl, hb5⟩
  have H5 := Lib.hid (And.intro (below_at hb5 (lt_heap H4.out.1) H4.out.1) (H4.out.2.trans (hb5.mono H4.out.2.size)))
  clear hb5 H4
  go_wp2_with fail
  refine Calls.mono (c1 _) ?_
  rintro e w6 ⟨g2, rfl, hg6, hgs, hb6⟩
  have H6 := Lib.hid (And.intro (below_at hb6 (lt_heap H5.out.1) H5.out.1) (And.intro (H5.out.2.trans (hb6.mono H5.out.2.size)) (And.intro (Nat.le_trans H5.out.2.size hgs) (show A1 < g2 from Nat.lt_of_lt_of_le (lt_heap H5.out.1) hgs))))
  have cc := ca g2 w6 hg6
  clear hb6 hg6 hgs H5
  go_wp2_with fail
  refine Calls.mono cc ?_
  rintro e w7 ⟨ma2, mk2, ca2, ck2, rfl, hrw, hs7, ho7⟩
  have hx7 := (ho7.block A1 (lt_heap H6.out.1) (Nat.ne_of_lt H6.out.2.2.2)).trans H6.out.1
  have hy := heap_alloc_self w7 (.cells #[.int .i64 R.k, .int .i64 R.who, .int .i64 R.a, .int .i64 R.b, .int .i64 R.aw, .int .i64 R.aa, .int .i64 R.al, .string R.ad, .bool R.sur, .slice ma2 R.M.length mk2, .slice ca2 R.C.length ck2, .string R.S] 72)
  have hb8 := (Below.refl w7.heap.size w7).alloc (Nat.le_refl _) (.cells #[.int .i64 R.k, .int .i64 R.who, .int .i64 R.a, .int .i64 R.b, .int .i64 R.aw, .int .i64 R.aa, .int .i64 R.al, .string R.ad, .bool R.sur, .slice ma2 R.M.length mk2, .slice ca2 R.C.length ck2, .string R.S] 72)
  have hb7 := H6.out.2.1.trans (ho7.below H6.out.2.2.1 H6.out.2.1.size)
  have H8 := Lib.hid (And.intro hy (And.intro (below_at hb8 (lt_heap hx7) hx7) (hb7.trans (hb8.mono hb7.size))))
  clear hrw hs7 ho7 hy hb8 hb7 hx7 cc H6
  go_upto_region 3 with fail
  generalize w7.alloc (.cells #[.int .i64 R.k, .int .i64 R.who, .int .i64 R.a, .int .i64 R.b, .int .i64 R.aw, .int .i64 R.aa, .int .i64 R.al, .string R.ad, .bool R.sur, .slice ma2 R.M.length mk2, .slice ca2 R.C.length ck2, .string R.S] 72) = w8 at *
  have x0 := cellG H8.out.1 0 (v := .int .i64 R.k) rfl
  have x1 := cellG H8.out.1 1 (v := .int .i64 R.who) rfl
  have y0 := cellG H8.out.2.1 0 (v := .int .i64 R.k) rfl
  have y1 := cellG H8.out.2.1 1 (v := .int .i64 R.who) rfl
  go_wp2_with fail
  refine Calls.mono (c0 _) ?_
  rintro e w9 ⟨rfl, hb9⟩
  have H9 := Lib.hid (H8.out.2.2.trans (hb9.mono H8.out.2.2.size))
  clear hb9 x0 x1 y0 y1 H8
  go_wp2_with fail
  refine Calls.mono (c2 _) ?_
  rintro e w10 ⟨g3, rfl, hg10, hgs, hb10⟩
  have H10 := Lib.hid (And.intro (H9.out.trans (hb10.mono H9.out.size)) (Nat.le_trans H9.out.size hgs))
  have cc := cs g3 w10 hg10
  clear hb10 hg10 hgs H9
  go_wp2_with fail
  refine Calls.mono cc ?_
  rintro e w11 ⟨a5, k5, rfl, hga⟩
  have H11 := Lib.hid (H10.out.1.trans (hga.choose_spec.2.2.2.2.below H10.out.2 H10.out.1.size))
  clear cc hga H10
  go_wp2_with fail
  go_ret
  exact ⟨rfl, H11.out⟩
end Go.Proofs.Ytfgmeeponipjeaa
