/-
  A cache without room; no cache; the waking call of layer 23; CacheNone.
-/
import Derived.Test.YtnjklhmnkjejfaaCacB
namespace Go.Proofs.Ytnjklhmnkjejfaa
open Go.RowKit
set_option linter.unusedVariables false
set_option linter.unusedSimpArgs false

set_option maxHeartbeats 1600000 in
set_option maxRecDepth 100000 in
theorem cput0 (b x : Int) (w : World) (N C a mp : Nat) (V : Nat → Value) (n : Nat) (D : DataW Unit) (hb : 0 ≤ b) (hb2 : b < 64) (h : CacheSt w N C a mp 0 V (fun _ => []) n D) :
    Calls Try.prog 6 #[.pointer (some ⟨C, 0, none⟩), .int .i64 b, .agg #[.int .u64 x, .string ⟨#[]⟩]] w fun e w' => e = .returned (.tuple #[]) ∧ Below w.heap.size w w' := by
  have hb0 := (Below.refl w.heap.size w).alloc (Nat.le_refl _) (.cells #[.int .u64 x, .string ⟨#[]⟩] 24)
  have hy := heap_alloc_self w (.cells #[.int .u64 x, .string ⟨#[]⟩] 24)
  have h1 := h.below hb0
  have cm := fun w => cmay b x w hb hb2
  clear h hb hb2
  go_enter Try.func6, Try.ntmps6
  go_upto_region 1 with fail
  generalize w.alloc (.cells #[.int .u64 x, .string ⟨#[]⟩] 24) = w1 at *
  have cA := carcA w1 C _ h1.cell.1
  obtain ⟨d0, d1, -, -⟩ := item_cells hy
  have HC := Lib.hid h1
  have HB := Lib.hid hb0
  clear h1 hy hb0
  go_wp2_with fail
  refine Calls.mono cA ?_
  rintro e w2 ⟨rfl, rfl⟩
  go_wp2_with fail
  refine Calls.mono (cm _) ?_
  rintro e w2 ⟨rfl, h2⟩
  have hC2 := HC.out.below h2
  have cu := ause_room b w2 N a 0 V _ hC2.arc
  have ch := ahas b w2 N a 0 0 V _ hC2.arc
  rw [show (([] : List Int).contains b || ([] : List Int).contains b) = false from rfl] at ch
  have c20 := hC2.cell.1
  have FO := Lib.hid (HB.out.trans (h2.mono HB.out.size))
  clear hC2 h2 HC HB cA cm d0 d1
  go_wp2_with fail
  refine Calls.mono cu ?_
  rintro e w3 ⟨rfl, rfl⟩
  go_wp2_with fail
  refine Calls.mono ch ?_
  rintro e w3 ⟨rfl, rfl⟩
  go_wp2_with fail
  go_end0
  exact ⟨rfl, FO.out⟩
set_option maxHeartbeats 1600000 in
set_option maxRecDepth 100000 in
theorem cget0 (b : Int) (w : World) (N C a mp : Nat) (R : Int) (V : Nat → Value) (n : Nat) (D : DataW Unit) (h : CacheSt w N C a mp R V (fun _ => []) n D) :
    Calls Try.prog 8 #[.pointer (some ⟨C, 0, none⟩), .int .i64 b] w fun e w' => e = .returned (.tuple #[.agg #[.int .u64 0, .string ⟨#[]⟩], .bool false]) ∧ Below w.heap.size w w' := by
  have hb0 := (Below.refl w.heap.size w).alloc (Nat.le_refl _) (.cells #[.int .u64 0, .string ⟨#[]⟩] 24)
  have hy := heap_alloc_self w (.cells #[.int .u64 0, .string ⟨#[]⟩] 24)
  have h1 := h.below hb0
  clear h
  go_enter Try.func8, Try.ntmps8
  go_upto_region 1 with fail
  generalize w.alloc (.cells #[.int .u64 0, .string ⟨#[]⟩] 24) = w1 at *
  have cA := carcA w1 C _ h1.cell.1
  have ch := ahas b w1 N a R 0 V _ h1.arc
  rw [show (([] : List Int).contains b || ([] : List Int).contains b) = false from rfl] at ch
  obtain ⟨d0, d1, f0, f1⟩ := item_cells hy
  have HB := Lib.hid hb0
  clear h1 hb0
  go_wp2_with fail
  refine Calls.mono cA ?_
  rintro e w2 ⟨rfl, rfl⟩
  go_wp2_with fail
  refine Calls.mono ch ?_
  rintro e w2 ⟨rfl, rfl⟩
  go_wp2_with fail
  obtain ⟨s0, s1⟩ := item_over hy 0 ⟨#[]⟩
  have FO := Lib.hid ((HB.out.setCell (p := ⟨w.heap.size, 0, none⟩) (Nat.le_refl _) (.int .u64 0)).setCell (p := ⟨w.heap.size, 1, none⟩) (Nat.le_refl _) (.string ⟨#[]⟩))
  generalize (w1.setCell ⟨w.heap.size, 0, none⟩ (.int .u64 0)).setCell ⟨w.heap.size, 1, none⟩ (.string ⟨#[]⟩) = w5 at *
  refine bodyPost_ret (v := .tuple #[.agg #[.int .u64 0, .string ⟨#[]⟩], .bool false]) (by simp [results, Try.results8, go_sem, s0, s1]) rfl ?_
  exact ⟨rfl, FO.out⟩
theorem carcN (w : World) : Calls Try.prog 12 #[.pointer none] w fun e w' => e = .returned (.pointer none) ∧ w = w' := by
  go_enter Try.func12, Try.ntmps12
  go_wp2_with fail
  go_ret
  exact ⟨rfl, rfl⟩
theorem ahasN (b : Int) (w : World) : Calls Try.prog 27 #[.pointer none, .int .i64 b] w fun e w' => e = .returned (.bool false) ∧ w = w' := by
  go_enter Try.func27, Try.ntmps27
  go_wp2_with fail
  go_ret
  exact ⟨rfl, rfl⟩
theorem adropN (b : Int) (w : World) : Calls Try.prog 28 #[.pointer none, .int .i64 b] w fun e w' => e = .returned (.bool false) ∧ w = w' := by
  go_enter Try.func28, Try.ntmps28
  go_wp2_with fail
  go_ret
  exact ⟨rfl, rfl⟩
theorem alenN (w : World) : Calls Try.prog 30 #[.pointer none] w fun e w' => e = .returned (.int .i64 0) ∧ w = w' := by
  go_enter Try.func30, Try.ntmps30
  go_wp2_with fail
  go_ret
  exact ⟨rfl, rfl⟩
theorem cputN (b x : Int) (d : ByteArray) (w : World) : Calls Try.prog 6 #[.pointer none, .int .i64 b, .agg #[.int .u64 x, .string d]] w fun e w' => e = .returned (.tuple #[]) ∧ Below w.heap.size w w' := by
  have hb0 := (Below.refl w.heap.size w).alloc (Nat.le_refl _) (.cells #[.int .u64 x, .string d] 24)
  have cA := fun w => carcN w
  go_enter Try.func6, Try.ntmps6
  go_upto_region 1 with fail
  generalize w.alloc (.cells #[.int .u64 x, .string d] 24) = w1 at *
  go_wp2_with fail
  refine Calls.mono (cA _) ?_
  rintro e w2 ⟨rfl, rfl⟩
  go_wp2_with fail
  go_returns
  exact ⟨rfl, hb0⟩
theorem cdropN (b : Int) (w : World) : Calls Try.prog 7 #[.pointer none, .int .i64 b] w fun e w' => e = .returned (.tuple #[]) ∧ w = w' := by
  go_enter Try.func7, Try.ntmps7
  go_wp2_with fail
  refine Calls.mono (carcN _) ?_
  rintro e w2 ⟨rfl, rfl⟩
  go_wp2_with fail
  refine Calls.mono (adropN b _) ?_
  rintro e w2 ⟨rfl, rfl⟩
  go_wp2_with fail
  go_end0
  exact ⟨rfl, rfl⟩
theorem clenN (w : World) : Calls Try.prog 11 #[.pointer none] w fun e w' => e = .returned (.int .i64 0) ∧ w = w' := by
  go_enter Try.func11, Try.ntmps11
  go_wp2_with fail
  refine Calls.mono (carcN _) ?_
  rintro e w2 ⟨rfl, rfl⟩
  go_wp2_with fail
  refine Calls.mono (alenN _) ?_
  rintro e w2 ⟨rfl, rfl⟩
  go_wp2_with fail
  go_ret
  exact ⟨rfl, rfl⟩
set_option maxHeartbeats 1600000 in
theorem cgetN (b : Int) (w : World) : Calls Try.prog 8 #[.pointer none, .int .i64 b] w fun e w' => e = .returned (.tuple #[.agg #[.int .u64 0, .string ⟨#[]⟩], .bool false]) ∧ Below w.heap.size w w' := by
  have hb0 := (Below.refl w.heap.size w).alloc (Nat.le_refl _) (.cells #[.int .u64 0, .string ⟨#[]⟩] 24)
  have hy := heap_alloc_self w (.cells #[.int .u64 0, .string ⟨#[]⟩] 24)
  have cA := fun w => carcN w
  have ch := fun w => ahasN b w
  go_enter Try.func8, Try.ntmps8
  go_upto_region 1 with fail
  generalize w.alloc (.cells #[.int .u64 0, .string ⟨#[]⟩] 24) = w1 at *
  obtain ⟨d0, d1, f0, f1⟩ := item_cells hy
  have HB := Lib.hid hb0
  clear hb0
  go_wp2_with fail
  refine Calls.mono (cA _) ?_
  rintro e w2 ⟨rfl, rfl⟩
  go_wp2_with fail
  refine Calls.mono (ch _) ?_
  rintro e w2 ⟨rfl, rfl⟩
  go_wp2_with fail
  obtain ⟨s0, s1⟩ := item_over hy 0 ⟨#[]⟩
  have FO := Lib.hid ((HB.out.setCell (p := ⟨w.heap.size, 0, none⟩) (Nat.le_refl _) (.int .u64 0)).setCell (p := ⟨w.heap.size, 1, none⟩) (Nat.le_refl _) (.string ⟨#[]⟩))
  generalize (w1.setCell ⟨w.heap.size, 0, none⟩ (.int .u64 0)).setCell ⟨w.heap.size, 1, none⟩ (.string ⟨#[]⟩) = w5 at *
  refine bodyPost_ret (v := .tuple #[.agg #[.int .u64 0, .string ⟨#[]⟩], .bool false]) (by simp [results, Try.results8, go_sem, s0, s1]) rfl ?_
  exact ⟨rfl, FO.out⟩
set_option maxHeartbeats 1600000 in
set_option maxRecDepth 100000 in
theorem awake23 (w : World) : Calls Try.prog 10 #[] w fun e w' => e = .returned (.bool true) ∧ Below w.heap.size w w' := by
  have c0 := fun w => cnewA2 w
  have cp := cput3 5
  have cg := cget3 5
  have cl := clenA
  go_enter Try.func10, Try.ntmps10
  go_wp2_with fail
  refine Calls.mono (c0 _) ?_
  rintro e w1 ⟨C, a, mp, rfl, h1, hmp, hb1⟩
  have c1 := cp w1 _ C a mp 2 _ h1 (by decide) (by decide) hmp
  have HB1 := Lib.hid hb1
  clear h1 hb1 cp c0
  go_wp2_with fail
  refine Calls.mono c1 ?_
  rintro e w2 ⟨rfl, V2, h2, hb2⟩
  have c2 := cg w2 _ C a mp 2 V2 _ _ h2 (by decide) (at_put 5)
  have HB2 := Lib.hid (HB1.out.trans hb2)
  clear h2 hb2 c1 cg
  go_wp2_with fail
  refine Calls.mono c2 ?_
  rintro e w3 ⟨rfl, V3, h3, hb3⟩
  have hb := HB2.out.trans hb3
  have hx := heap_alloc_self w3 (.cells #[.int .u64 5, .string ⟨#[]⟩] 24)
  have h4 := h3.below ((Below.refl w3.heap.size w3).alloc (Nat.le_refl _) (.cells #[.int .u64 5, .string ⟨#[]⟩] 24))
  have HB4 := Lib.hid (hb.alloc hb.size (.cells #[.int .u64 5, .string ⟨#[]⟩] 24))
  clear h3 hb3 hb c2
  go_upto_region 4 with fail
  generalize w3.alloc (.cells #[.int .u64 5, .string ⟨#[]⟩] 24) = w4 at *
  obtain ⟨d0, -, -, -⟩ := item_cells hx
  have c5 := cl w4 _ C a mp 2 V3 _ _ _ h4 (by decide) (by decide)
  rw [show (((upd (upd (upd (fun _ => ([] : List Int)) 0 [3]) 0 []) 1 [3] 0).length : Int) + ((upd (upd (upd (fun _ => ([] : List Int)) 0 [3]) 0 []) 1 [3] 1).length : Int)) = 1 from rfl] at c5
  clear h4 hx cl
  go_wp2_with fail
  refine Calls.mono c5 ?_
  rintro e w5 ⟨rfl, rfl⟩
  go_wp2_with fail
  go_ret
  exact ⟨rfl, HB4.out⟩
set_option maxHeartbeats 1600000 in
set_option maxRecDepth 100000 in
theorem cachenone_law (b : Int) (c : Array Value) (w : World) (_hb : (Lit.int .i64 b).wf = true) (hc : Fits w (.two (.int .u64) (.two .str .unit)) c.toList) :
    Calls Try.prog 3 #[.int .i64 b, .agg c] w fun e w' => e = .returned (.bool true) ∧ Below w.heap.size w w' := by
  obtain ⟨v, s, rfl, -, -⟩ := fits_item hc
  have ca := fun w => awake23 w
  have cp := fun w => cputN b v s w
  have cg := fun w => cgetN b w
  have cn := fun w => cnewA0 w
  have cp0 := cput0 1 2
  have cg0 := cget0 1
  have cl := clenA
  have hx := heap_alloc_self w (.cells #[.int .u64 v, .string s] 24)
  have hb0 := (Below.refl w.heap.size w).alloc (Nat.le_refl _) (.cells #[.int .u64 v, .string s] 24)
  clear hc
  unfold itemA at *
  go_enter Try.func3, Try.ntmps3
  go_upto_region 2 with fail
  generalize w.alloc (.cells #[.int .u64 v, .string s] 24) = w0 at *
  obtain ⟨d0, d1, -, -⟩ := item_cells hx
  have HB0 := Lib.hid hb0
  clear hb0 hx
  go_wp2_with fail
  refine Calls.mono (cp _) ?_
  rintro e w1 ⟨rfl, h1⟩
  have HB1 := Lib.hid (HB0.out.trans (h1.mono HB0.out.size))
  clear h1 d0 d1 cp
  go_wp2_with fail
  refine Calls.mono (cdropN b _) ?_
  rintro e w2 ⟨rfl, rfl⟩
  go_wp2_with fail
  refine Calls.mono (cg _) ?_
  rintro e w2 ⟨rfl, h2⟩
  have hb2 := HB1.out.trans (h2.mono HB1.out.size)
  have HB2 := Lib.hid (hb2.alloc hb2.size (.cells #[.int .u64 0, .string ⟨#[]⟩] 24))
  clear h2 hb2 cg
  go_upto_region 5 with fail
  generalize w2.alloc (.cells #[.int .u64 0, .string ⟨#[]⟩] 24) = w3 at *
  go_wp2_with fail
  refine Calls.mono (cn _) ?_
  rintro e w4 ⟨C, a, mp, rfl, h4, hmp, hb4⟩
  have c5 := cp0 w4 _ C a mp _ _ _ (by decide) (by decide) h4
  have HB4 := Lib.hid (HB2.out.trans (hb4.mono HB2.out.size))
  have H4 := Lib.hid h4
  clear h4 hb4 hmp cn cp0
  go_wp2_with fail
  refine Calls.mono c5 ?_
  rintro e w5 ⟨rfl, h5⟩
  have c6 := cg0 w5 _ C a mp _ _ _ _ (H4.out.below h5)
  have HB5 := Lib.hid (HB4.out.trans (h5.mono HB4.out.size))
  have H5 := Lib.hid (H4.out.below h5)
  clear h5 c5 cg0 H4
  go_wp2_with fail
  refine Calls.mono c6 ?_
  rintro e w6 ⟨rfl, h6⟩
  have hb6 := HB5.out.trans (h6.mono HB5.out.size)
  have HB6 := Lib.hid (hb6.alloc hb6.size (.cells #[.int .u64 0, .string ⟨#[]⟩] 24))
  have H6 := Lib.hid ((H5.out.below h6).below ((Below.refl w6.heap.size w6).alloc (Nat.le_refl _) (.cells #[.int .u64 0, .string ⟨#[]⟩] 24)))
  clear h6 hb6 c6 H5
  go_upto_region 8 with fail
  generalize w6.alloc (.cells #[.int .u64 0, .string ⟨#[]⟩] 24) = w7 at *
  go_wp2_with fail
  refine Calls.mono (ca _) ?_
  rintro e w8 ⟨rfl, h8⟩
  have c9 := cl w8 _ C a mp _ _ _ _ _ (H6.out.below h8) (by decide) (by decide)
  have HB8 := Lib.hid (HB6.out.trans (h8.mono HB6.out.size))
  clear h8 ca cl H6
  go_wp2_with fail
  refine Calls.mono (clenN _) ?_
  rintro e w9 ⟨rfl, rfl⟩
  go_wp2_with fail
  refine Calls.mono (carcN _) ?_
  rintro e w9 ⟨rfl, rfl⟩
  go_wp2_with fail
  refine Calls.mono c9 ?_
  rintro e w9 ⟨rfl, rfl⟩
  go_wp2_with fail
  go_ret
  exact ⟨rfl, HB8.out⟩
end Go.Proofs.Ytnjklhmnkjejfaa
