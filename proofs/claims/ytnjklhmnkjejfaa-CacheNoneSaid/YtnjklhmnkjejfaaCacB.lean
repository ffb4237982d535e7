/-
  A cache: Put of a block, Get of it; the waking call of layer 23.
-/
import Derived.Test.YtnjklhmnkjejfaaCac
import Derived.Deep.RegionWith
namespace Go.Proofs.Ytnjklhmnkjejfaa
open Go.RowKit
set_option linter.unusedVariables false
set_option linter.unusedSimpArgs false

set_option maxHeartbeats 800000 in
theorem cmay (b x : Int) (w : World) (h0 : 0 ≤ b) (h1 : b < 64) : Calls Try.prog 25 #[.int .i64 b, .agg #[.int .u64 x, .string ⟨#[]⟩]] w fun e w' => e = .returned (.bool true) ∧ Below w.heap.size w w' := by
  have hb0 := (Below.refl w.heap.size w).alloc (Nat.le_refl _) (.cells #[.int .u64 x, .string ⟨#[]⟩] 24)
  have hy := heap_alloc_self w (.cells #[.int .u64 x, .string ⟨#[]⟩] 24)
  have cm := (mayT_none x).1
  unfold itemA at cm
  go_enter Try.func25, Try.ntmps25
  go_upto_region 1 with fail
  generalize w.alloc (.cells #[.int .u64 x, .string ⟨#[]⟩] 24) = w1 at *
  obtain ⟨d0, d1, -, -⟩ := item_cells hy
  have HB := Lib.hid hb0
  clear hb0 hy
  go_wp2_with fail
  refine Calls.mono (cm _) ?_
  rintro e w2 ⟨rfl, h2⟩
  have F := Lib.hid (HB.out.trans (h2.mono HB.out.size))
  clear h2
  go_wp2_with fail
  go_ret
  exact ⟨rfl, F.out⟩
set_option maxHeartbeats 1600000 in
set_option maxRecDepth 100000 in
/-- a block's item comes into a cache with room, that holds no number yet -/
theorem cput3 (x : Int) (w : World) (N C a mp : Nat) (R : Int) (V : Nat → Value) (h : CacheSt w N C a mp R V (fun _ => []) 0 (.map [])) (hR0 : 0 < R) (hR : R ≤ 64) (hmp : N ≤ mp) :
    Calls Try.prog 6 #[.pointer (some ⟨C, 0, none⟩), .int .i64 3, .agg #[.int .u64 x, .string ⟨#[]⟩]] w fun e w' => e = .returned (.tuple #[]) ∧ ∃ V', CacheSt w' N C a mp R V' (upd (fun _ => []) 0 [3]) 1 ((DataW.map []).put (.int .i64 3) (.lit (.int .u64 x))) ∧ Below N w w' := by
  have hNw := h.arc.le
  have hb0 := (Below.refl w.heap.size w).alloc (Nat.le_refl _) (.cells #[.int .u64 x, .string ⟨#[]⟩] 24)
  have hy := heap_alloc_self w (.cells #[.int .u64 x, .string ⟨#[]⟩] 24)
  have h1 := h.below hb0
  have hX : ∀ i, i < 4 → some w.heap.size ≠ (V i).ownBlock := fun i hi e => Nat.lt_irrefl _ ((h.arc.row i hi).lt _ e.symm)
  have hXa : w.heap.size ≠ a := fun e => by have := lt_heap h.arc.obj; omega
  have cm := fun w => cmay 3 x w (by decide) (by decide)
  have HN := Lib.hid (hb0.mono hNw)
  clear h hNw hb0
  go_enter Try.func6, Try.ntmps6
  go_upto_region 1 with fail
  generalize w.alloc (.cells #[.int .u64 x, .string ⟨#[]⟩] 24) = w1 at *
  have cA := carcA w1 C _ h1.cell.1
  have HB := Lib.hid (⟨hy, hXa, hX⟩ : ABlk w1 a V w.heap.size (.cells #[.int .u64 x, .string ⟨#[]⟩] 24))
  have HC := Lib.hid h1
  obtain ⟨d0, d1, -, -⟩ := item_cells hy
  clear h1 hy hXa hX
  go_wp2_with fail
  refine Calls.mono cA ?_
  rintro e w2 ⟨rfl, rfl⟩
  go_wp2_with fail
  refine Calls.mono (cm _) ?_
  rintro e w2 ⟨rfl, h2⟩
  have hN2 := HN.out.trans (h2.mono HC.out.arc.le)
  have hB2 := HB.out.below h2
  have hC2 := HC.out.below h2
  have cu := ause_new 3 w2 N a R 0 V _ hC2.arc hR0 hR (by simpa using hR0) (fun _ _ => rfl)
  have c20 := hC2.cell.1
  have H2 := Lib.hid (And.intro hN2 (And.intro hB2 hC2))
  clear hN2 hB2 hC2 h2 cm cA HN HB HC d0 d1
  go_wp2_with fail
  refine Calls.mono cu ?_
  rintro e w3 ⟨rfl, V', hA3, hK3⟩
  have hN3 := H2.out.1.trans hK3.below
  have hB3 := H2.out.2.1.step hK3
  have hC3 := H2.out.2.2.step hA3 hK3
  have ch := ahas 3 w3 N a R 0 V' _ hC3.arc
  have c30 := hC3.cell.1
  have H3 := Lib.hid (And.intro hN3 (And.intro hB3 hC3))
  rw [show ((upd (fun _ => ([] : List Int)) 0 [3] 0).contains 3 || (upd (fun _ => ([] : List Int)) 0 [3] 1).contains 3) = true from rfl] at ch
  clear hN3 hB3 hC3 hK3 hA3 cu H2 c20
  go_wp2_with fail
  refine Calls.mono ch ?_
  rintro e w4 ⟨rfl, rfl⟩
  obtain ⟨W, hW⟩ : ∃ W, W = w3 := ⟨_, rfl⟩
  subst hW
  clear ch c30
  have hcd : CacheSt W.drew N C a mp R V' _ 0 (.map []) := H3.out.2.2.below (below_drew' (Below.refl _ _))
  obtain ⟨W', hrun, hC5, hg5⟩ := hcd.store (by decide) 3 x (by decide)
  obtain ⟨c0, c1⟩ := H3.out.2.2.cell
  obtain ⟨d0, d1, -, -⟩ := item_cells H3.out.2.1.at_
  have H5 := Lib.hid (And.intro hC5 hg5)
  clear hC5 hg5 hcd
  go_upto_region 6 with fail
  go_region
  go_end0
  refine ⟨rfl, V', H5.out.1, ?_⟩
  exact H3.out.1.trans ((below_drew' (Below.refl N W)).grown H5.out.2 H3.out.2.2.arc.le (fun k e => by cases e; exact hmp))
set_option maxHeartbeats 1600000 in
set_option maxRecDepth 100000 in
theorem cget3 (x : Int) (w : World) (N C a mp : Nat) (R : Int) (V : Nat → Value) (n : Nat) (D : DataW Unit) (h : CacheSt w N C a mp R V (upd (fun _ => []) 0 [3]) n D) (hR0 : 0 < R) (hx : D.atKey (.int .i64 3) (.lit (.int .u64 0)) = .lit (.int .u64 x)) :
    Calls Try.prog 8 #[.pointer (some ⟨C, 0, none⟩), .int .i64 3] w fun e w' => e = .returned (.tuple #[.agg #[.int .u64 x, .string ⟨#[]⟩], .bool true]) ∧ ∃ V', CacheSt w' N C a mp R V' (upd (upd (upd (fun _ => []) 0 [3]) 0 []) 1 [3]) n D ∧ Below N w w' := by
  have hNw := h.arc.le
  have hb0 := (Below.refl w.heap.size w).alloc (Nat.le_refl _) (.cells #[.int .u64 0, .string ⟨#[]⟩] 24)
  have hy := heap_alloc_self w (.cells #[.int .u64 0, .string ⟨#[]⟩] 24)
  have h1 := h.below hb0
  have hX : ∀ i, i < 4 → some w.heap.size ≠ (V i).ownBlock := fun i hi e => Nat.lt_irrefl _ ((h.arc.row i hi).lt _ e.symm)
  have hXa : w.heap.size ≠ a := fun e => by have := lt_heap h.arc.obj; omega
  have hXC : w.heap.size ≠ C := fun e => by have := lt_heap h.cac.at_; omega
  have hXm : w.heap.size ≠ mp := fun e => by have := h.map.lt; omega
  have HN := Lib.hid (And.intro hNw (hb0.mono hNw))
  clear h hNw hb0
  go_enter Try.func8, Try.ntmps8
  go_upto_region 1 with fail
  generalize w.alloc (.cells #[.int .u64 0, .string ⟨#[]⟩] 24) = w1 at *
  have cA := carcA w1 C _ h1.cell.1
  have ch := ahas 3 w1 N a R 0 V _ h1.arc
  have cu := ause_has 3 w1 N a R 0 V _ h1.arc hR0 rfl (by decide) (by decide)
  rw [show ((upd (fun _ => ([] : List Int)) 0 [3] 0).contains 3 || (upd (fun _ => ([] : List Int)) 0 [3] 1).contains 3) = true from rfl] at ch
  have HB := Lib.hid (⟨hy, hXa, hX⟩ : ABlk w1 a V w.heap.size (.cells #[.int .u64 0, .string ⟨#[]⟩] 24))
  have HC := Lib.hid h1
  have c10 := h1.cell.1
  clear h1 hy hXa hX
  go_wp2_with fail
  refine Calls.mono cA ?_
  rintro e w2 ⟨rfl, rfl⟩
  go_wp2_with fail
  refine Calls.mono ch ?_
  rintro e w2 ⟨rfl, rfl⟩
  go_wp2_with fail
  refine Calls.mono cu ?_
  rintro e w3 ⟨rfl, V', hA3, hK3⟩
  have hN3 := HN.out.2.trans hK3.below
  have hB3 := HB.out.step hK3
  have hC3 := HC.out.step hA3 hK3
  have hl := hC3.look 3 x (by decide) hx
  obtain ⟨c0, c1⟩ := hC3.cell
  obtain ⟨d0, d1, f0, f1⟩ := item_cells hB3.at_
  have H3 := Lib.hid (And.intro hN3 (And.intro hB3 hC3))
  clear hN3 hB3 hC3 hK3 hA3 cu ch cA c10 HB HC
  go_wp2_with fail
  obtain ⟨s0, s1⟩ := item_over H3.out.2.1.at_ x ⟨#[]⟩
  have FO := Lib.hid (show CacheSt ((w3.setCell ⟨w.heap.size, 0, none⟩ (.int .u64 x)).setCell ⟨w.heap.size, 1, none⟩ (.string ⟨#[]⟩)) N C a mp R V' _ n D ∧ Below N w ((w3.setCell ⟨w.heap.size, 0, none⟩ (.int .u64 x)).setCell ⟨w.heap.size, 1, none⟩ (.string ⟨#[]⟩)) from
    ⟨((H3.out.2.2.cellw (i := 0) H3.out.2.1.ne H3.out.2.1.nr hXC hXm _).cellw (i := 1) H3.out.2.1.ne H3.out.2.1.nr hXC hXm _), (H3.out.1.setCell (p := ⟨w.heap.size, 0, none⟩) HN.out.1 (.int .u64 x)).setCell (p := ⟨w.heap.size, 1, none⟩) HN.out.1 (.string ⟨#[]⟩)⟩)
  generalize (w3.setCell ⟨w.heap.size, 0, none⟩ (.int .u64 x)).setCell ⟨w.heap.size, 1, none⟩ (.string ⟨#[]⟩) = w5 at *
  refine bodyPost_ret (v := .tuple #[.agg #[.int .u64 x, .string ⟨#[]⟩], .bool true]) (by simp [results, Try.results8, go_sem, s0, s1]) rfl ?_
  exact ⟨rfl, V', FO.out⟩
theorem clenA (w : World) (N C a mp : Nat) (R : Int) (V : Nat → Value) (L : Nat → List Int) (n : Nat) (D : DataW Unit) (h : CacheSt w N C a mp R V L n D) (h0 : (L 0).length ≤ 1000) (h1 : (L 1).length ≤ 1000) :
    Calls Try.prog 11 #[.pointer (some ⟨C, 0, none⟩)] w fun e w' => e = .returned (.int .i64 ((L 0).length + (L 1).length)) ∧ w = w' := by
  have cA := carcA w C _ h.cell.1
  have cl := alen w N a R 0 V L h.arc h0 h1
  clear h
  go_enter Try.func11, Try.ntmps11
  go_wp2_with fail
  refine Calls.mono cA ?_
  rintro e w1 ⟨rfl, rfl⟩
  go_wp2_with fail
  refine Calls.mono cl ?_
  rintro e w1 ⟨rfl, rfl⟩
  go_wp2_with fail
  go_ret
  exact ⟨rfl, rfl⟩
end Go.Proofs.Ytnjklhmnkjejfaa
