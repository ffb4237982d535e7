/-
  A mirror with nothing kept: Check, Met; the waking call of layer 24; no mirror.
-/
import Derived.Test.YtnjklhmnkjejfaaMirNB
namespace Go.Proofs.Ytnjklhmnkjejfaa
open Go.RowKit
set_option linter.unusedVariables false
set_option linter.unusedSimpArgs false

theorem mmet5 (w : World) (m : Nat) (h : w.cell? ⟨m, 3, none⟩ = some (.int .u64 5)) : Calls Try.prog 18 #[.pointer (some ⟨m, 0, none⟩), .int .i64 3] w fun e w' => e = .returned (.int .u64 5) ∧ w = w' := by
  have ch := fun w => mhas3 w
  go_enter Try.func18, Try.ntmps18
  go_wp2_with fail
  refine Calls.mono (ch _) ?_
  rintro e w1 ⟨rfl, rfl⟩
  go_wp2_with fail
  go_ret
  exact ⟨rfl, rfl⟩
set_option maxHeartbeats 1600000 in
set_option maxRecDepth 100000 in
theorem mcheck5 (w : World) (N p : Nat) (v : Value) (m C a : Nat) (A : Array Value) (mv : Value) (h : Mir w N p v [⟨3, 5, ⟨#[]⟩⟩] m C a 5 A mv) :
    Calls Try.prog 13 #[.pointer (some ⟨m, 0, none⟩), .int .i64 3] w fun e w' => e = .returned (.tuple #[.int .i64 1, .agg #[.int .u64 5, .string ⟨#[]⟩]]) ∧ Below w.heap.size w w' := by
  have hb0 := (Below.refl w.heap.size w).alloc (Nat.le_refl _) (.cells #[.int .u64 0, .string ⟨#[]⟩] 24)
  have hy := heap_alloc_self w (.cells #[.int .u64 0, .string ⟨#[]⟩] 24)
  have h1 := h.go hb0
  have cg := sget _ _ _ _ _ h1.set 3
  rw [show getL [(⟨3, 5, ⟨#[]⟩⟩ : HI)] 3 = some ⟨3, 5, ⟨#[]⟩⟩ from rfl, show gv (some (⟨3, 5, ⟨#[]⟩⟩ : HI)) = 5 from rfl, show gd (some (⟨3, 5, ⟨#[]⟩⟩ : HI)) = ⟨#[]⟩ from rfl, show (some (⟨3, 5, ⟨#[]⟩⟩ : HI)).isSome = true from rfl] at cg
  unfold itemA at cg
  obtain ⟨-, m64, -, -⟩ := h1.cell
  clear h h1
  go_enter Try.func13, Try.ntmps13
  go_upto_region 3 with fail
  generalize w.alloc (.cells #[.int .u64 0, .string ⟨#[]⟩] 24) = w1 at *
  have HB := Lib.hid hb0
  clear hb0
  go_wp2_with fail
  refine Calls.mono cg ?_
  rintro e w2 ⟨rfl, h2⟩
  have y2 := below_at h2 (lt_heap hy) hy
  have hb2 := HB.out.trans (h2.mono HB.out.size)
  have hb3 := hb2.alloc hb2.size (.cells #[.int .u64 5, .string ⟨#[]⟩] 24)
  have y3 := alloc_far (o := .cells #[.int .u64 5, .string ⟨#[]⟩] 24) y2
  have z3 := heap_alloc_self w2 (.cells #[.int .u64 5, .string ⟨#[]⟩] 24)
  have hlt := lt_heap y2
  clear h2 y2 hb2 hy cg
  go_upto_region 5 with fail
  generalize w2.alloc (.cells #[.int .u64 5, .string ⟨#[]⟩] 24) = w3 at *
  obtain ⟨d0, d1, f0, f1⟩ := item_cells y3
  obtain ⟨e0, e1, -, -⟩ := item_cells z3
  go_region
  obtain ⟨s0, s1⟩ := item_over y3 5 ⟨#[]⟩
  have FO := Lib.hid (below_drew' ((hb3.setCell (p := ⟨w.heap.size, 0, none⟩) (Nat.le_refl _) (.int .u64 5)).setCell (p := ⟨w.heap.size, 1, none⟩) (Nat.le_refl _) (.string ⟨#[]⟩)))
  have s0 : ((w3.setCell ⟨w.heap.size, 0, none⟩ (.int .u64 5)).setCell ⟨w.heap.size, 1, none⟩ (.string ⟨#[]⟩)).drew.cell? ⟨w.heap.size, 0, none⟩ = some (.int .u64 5) := s0
  have s1 : ((w3.setCell ⟨w.heap.size, 0, none⟩ (.int .u64 5)).setCell ⟨w.heap.size, 1, none⟩ (.string ⟨#[]⟩)).drew.cell? ⟨w.heap.size, 1, none⟩ = some (.string ⟨#[]⟩) := s1
  generalize ((w3.setCell ⟨w.heap.size, 0, none⟩ (.int .u64 5)).setCell ⟨w.heap.size, 1, none⟩ (.string ⟨#[]⟩)).drew = w5 at *
  clear d0 d1 f0 f1 e0 e1 y3 z3 hb3
  go_wp2_with fail
  refine bodyPost_ret (v := .tuple #[.int .i64 1, .agg #[.int .u64 5, .string ⟨#[]⟩]]) (by simp [results, Try.results13, go_sem, s0, s1]) rfl ?_
  exact ⟨rfl, FO.out⟩
set_option maxHeartbeats 1600000 in
set_option maxRecDepth 100000 in
theorem awake24 (w : World) : Calls Try.prog 14 #[] w fun e w' => e = .returned (.bool true) ∧ Below w.heap.size w w' := by
  have c0 := fun w => mnew0 w
  have cp := mput0
  go_enter Try.func14, Try.ntmps14
  go_wp2_with fail
  refine Calls.mono (c0 _) ?_
  rintro e w1 ⟨m, C, a, A, mv, rfl, hm, hge, hb1⟩
  have c1 := cp w1 _ _ _ _ _ _ _ _ hm
  have HB := Lib.hid hb1
  have HS := Lib.hid hb1.size
  clear cp c0 hm hb1
  go_wp2_with fail
  refine Calls.mono c1 ?_
  rintro e w2 ⟨rfl, v', hm2, hs2, hb2⟩
  have HB2 := Lib.hid (HB.out.trans (hb2 _ hge (Nat.le_refl _)))
  have c2 := mcheck5 w2 _ _ _ _ _ _ _ _ hm2
  have HM2 := Lib.hid hm2
  clear hm2 hs2 hb2 c1
  go_wp2_with fail
  refine Calls.mono c2 ?_
  rintro e w3 ⟨rfl, hb3⟩
  have hx := heap_alloc_self w3 (.cells #[.int .u64 5, .string ⟨#[]⟩] 24)
  have hm4 := (HM2.out.go hb3).go ((Below.refl w3.heap.size w3).alloc (Nat.le_refl _) (.cells #[.int .u64 5, .string ⟨#[]⟩] 24))
  have hb4 := HB2.out.trans (hb3.mono HB2.out.size)
  have HB4 := Lib.hid (hb4.alloc hb4.size (.cells #[.int .u64 5, .string ⟨#[]⟩] 24))
  clear hb3 hb4 c2
  go_upto_region 4 with fail
  generalize w3.alloc (.cells #[.int .u64 5, .string ⟨#[]⟩] 24) = w4 at *
  obtain ⟨d0, -, -, -⟩ := item_cells hx
  have c5 := mmet5 w4 m hm4.cell.1
  clear hm4 hx
  go_wp2_with fail
  refine Calls.mono c5 ?_
  rintro e w5 ⟨rfl, rfl⟩
  go_wp2_with fail
  go_ret
  exact ⟨rfl, HB4.out⟩

theorem mn_check (b : Int) (w : World) : Calls Try.prog 13 #[.pointer none, .int .i64 b] w fun e w' => e = .returned (.tuple #[.int .i64 0, .agg #[.int .u64 0, .string ⟨#[]⟩]]) ∧ Below w.heap.size w w' := by
  have hb0 := (Below.refl w.heap.size w).alloc (Nat.le_refl _) (.cells #[.int .u64 0, .string ⟨#[]⟩] 24)
  have y := heap_alloc_self w (.cells #[.int .u64 0, .string ⟨#[]⟩] 24)
  go_enter Try.func13, Try.ntmps13
  go_upto_region 2 with fail
  generalize w.alloc (.cells #[.int .u64 0, .string ⟨#[]⟩] 24) = w1 at *
  obtain ⟨d0, d1, f0, f1⟩ := item_cells y
  have HB := Lib.hid hb0
  clear hb0
  go_wp2_with fail
  obtain ⟨s0, s1⟩ := item_over y 0 ⟨#[]⟩
  have FO := Lib.hid ((HB.out.setCell (p := ⟨w.heap.size, 0, none⟩) (Nat.le_refl _) (.int .u64 0)).setCell (p := ⟨w.heap.size, 1, none⟩) (Nat.le_refl _) (.string ⟨#[]⟩))
  generalize (w1.setCell ⟨w.heap.size, 0, none⟩ (.int .u64 0)).setCell ⟨w.heap.size, 1, none⟩ (.string ⟨#[]⟩) = w5 at *
  refine bodyPost_ret (v := .tuple #[.int .i64 0, .agg #[.int .u64 0, .string ⟨#[]⟩]]) (by simp [results, Try.results13, go_sem, s0, s1]) rfl ?_
  exact ⟨rfl, FO.out⟩
theorem mn_put (b x : Int) (d : ByteArray) (w : World) : Calls Try.prog 15 #[.pointer none, .int .i64 b, .agg #[.int .u64 x, .string d]] w fun e w' => e = .returned (.bool false) ∧ Below w.heap.size w w' := by
  have hb0 := (Below.refl w.heap.size w).alloc (Nat.le_refl _) (.cells #[.int .u64 x, .string d] 24)
  go_enter Try.func15, Try.ntmps15
  go_upto_region 1 with fail
  generalize w.alloc (.cells #[.int .u64 x, .string d] 24) = w1 at *
  go_quiet (fail)
  go_wp2_with fail
  go_ret
  exact ⟨rfl, below_drewN' hb0 nq⟩
theorem mn_warm (b x : Int) (d : ByteArray) (w : World) : Calls Try.prog 17 #[.pointer none, .int .i64 b, .agg #[.int .u64 x, .string d]] w fun e w' => e = .returned (.bool false) ∧ Below w.heap.size w w' := by
  have hb0 := (Below.refl w.heap.size w).alloc (Nat.le_refl _) (.cells #[.int .u64 x, .string d] 24)
  go_enter Try.func17, Try.ntmps17
  go_upto_region 1 with fail
  generalize w.alloc (.cells #[.int .u64 x, .string d] 24) = w1 at *
  go_quiet (fail)
  go_wp2_with fail
  go_ret
  exact ⟨rfl, below_drewN' hb0 nq⟩
theorem mn_clean (b x : Int) (w : World) : Calls Try.prog 16 #[.pointer none, .int .i64 b, .int .u64 x] w fun e w' => e = .returned (.bool false) ∧ w = w' := by
  go_enter Try.func16, Try.ntmps16
  go_wp2_with fail
  go_ret
  exact ⟨rfl, rfl⟩
theorem mn_met (b : Int) (w : World) : Calls Try.prog 18 #[.pointer none, .int .i64 b] w fun e w' => e = .returned (.int .u64 0) ∧ w = w' := by
  go_enter Try.func18, Try.ntmps18
  go_wp2_with fail
  go_ret
  exact ⟨rfl, rfl⟩
theorem mn_dirty (w : World) : Calls Try.prog 19 #[.pointer none] w fun e w' => e = .returned (.slice none 0 0) ∧ w = w' := by
  go_enter Try.func19, Try.ntmps19
  go_wp2_with fail
  go_ret
  exact ⟨rfl, rfl⟩
theorem mn_kept (w : World) : Calls Try.prog 20 #[.pointer none] w fun e w' => e = .returned (.int .i64 0) ∧ w = w' := by
  go_enter Try.func20, Try.ntmps20
  go_wp2_with fail
  go_ret
  exact ⟨rfl, rfl⟩
set_option maxHeartbeats 1600000 in
set_option maxRecDepth 100000 in
theorem mirrornone_law (b : Int) (c : Array Value) (w : World) (_hb : (Lit.int .i64 b).wf = true) (hc : Fits w (.two (.int .u64) (.two .str .unit)) c.toList) :
    Calls Try.prog 4 #[.int .i64 b, .agg c] w fun e w' => e = .returned (.bool true) ∧ Below w.heap.size w w' := by
  obtain ⟨v, s, rfl, -, -⟩ := fits_item hc
  have ca := fun w => awake24 w
  have cp := fun w => mn_put b v s w
  have cw := fun w => mn_warm b v s w
  have cg := fun w => mn_check b w
  have hx := heap_alloc_self w (.cells #[.int .u64 v, .string s] 24)
  have hb0 := (Below.refl w.heap.size w).alloc (Nat.le_refl _) (.cells #[.int .u64 v, .string s] 24)
  clear hc
  unfold itemA at *
  go_enter Try.func4, Try.ntmps4
  go_wp2_with fail
  refine Calls.mono (cg _) ?_
  rintro e w1 ⟨rfl, h1⟩
  have y1 := below_at h1 (lt_heap hx) hx
  have hb1 := hb0.trans (h1.mono hb0.size)
  have hb2 := hb1.alloc hb1.size (.cells #[.int .u64 0, .string ⟨#[]⟩] 24)
  have y2 := alloc_far (o := .cells #[.int .u64 0, .string ⟨#[]⟩] 24) y1
  clear h1 y1 hb1 hx hb0
  go_upto_region 3 with fail
  generalize w1.alloc (.cells #[.int .u64 0, .string ⟨#[]⟩] 24) = w2 at *
  have HB := Lib.hid hb2
  have HY := Lib.hid y2
  clear hb2 y2
  go_wp2_with fail
  refine Calls.mono (ca _) ?_
  rintro e w3 ⟨rfl, h3⟩
  have y3 := below_at h3 (lt_heap HY.out) HY.out
  have d0 : w3.cell? ⟨w.heap.size, 0, none⟩ = some (.int .u64 v) := by simp [World.cell?, y3]
  have d1 : w3.cell? ⟨w.heap.size, 1, none⟩ = some (.string s) := by simp [World.cell?, y3]
  have HB3 := Lib.hid (HB.out.trans (h3.mono HB.out.size))
  clear h3
  go_wp2_with fail
  refine Calls.mono (cp _) ?_
  rintro e w4 ⟨rfl, h4⟩
  have y4 := below_at h4 (lt_heap y3) y3
  clear d0 d1
  have d0 : w4.cell? ⟨w.heap.size, 0, none⟩ = some (.int .u64 v) := by simp [World.cell?, y4]
  have d1 : w4.cell? ⟨w.heap.size, 1, none⟩ = some (.string s) := by simp [World.cell?, y4]
  have HB4 := Lib.hid (HB3.out.trans (h4.mono HB3.out.size))
  clear h4 y3
  go_wp2_with fail
  refine Calls.mono (mn_clean b v _) ?_
  rintro e w5 ⟨rfl, rfl⟩
  go_wp2_with fail
  refine Calls.mono (cw _) ?_
  rintro e w5 ⟨rfl, h5⟩
  have HB5 := Lib.hid (HB4.out.trans (h5.mono HB4.out.size))
  clear h5 d0 d1 y4
  go_wp2_with fail
  refine Calls.mono (mn_met b _) ?_
  rintro e w6 ⟨rfl, rfl⟩
  go_wp2_with fail
  refine Calls.mono (mn_dirty _) ?_
  rintro e w6 ⟨rfl, rfl⟩
  go_wp2_with fail
  refine Calls.mono (mn_kept _) ?_
  rintro e w6 ⟨rfl, rfl⟩
  go_wp2_with fail
  go_ret
  exact ⟨rfl, HB5.out⟩
end Go.Proofs.Ytnjklhmnkjejfaa
