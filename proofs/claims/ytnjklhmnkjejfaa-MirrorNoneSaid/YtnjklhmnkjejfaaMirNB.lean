/-
  A mirror with nothing kept: Put, Check, Met; the waking call of layer 24.
-/
import Derived.Test.YtnjklhmnkjejfaaMirN
namespace Go.Proofs.Ytnjklhmnkjejfaa
open Go.RowKit
set_option linter.unusedVariables false
set_option linter.unusedSimpArgs false

set_option maxHeartbeats 1600000 in
set_option maxRecDepth 100000 in
theorem mput0 (w : World) (N p : Nat) (v : Value) (m C a : Nat) (A : Array Value) (mv : Value) (h : Mir w N p v [] m C a 0 A mv) :
    Calls Try.prog 15 #[.pointer (some ⟨m, 0, none⟩), .int .i64 3, .agg #[.int .u64 5, .string ⟨#[]⟩]] w fun e w' => e = .returned (.bool true) ∧ ∃ v', Mir w' N p v' [⟨3, 5, ⟨#[]⟩⟩] m C a 5 (A.setIfInBounds 3 (.int .u64 5)) mv ∧ w.heap.size ≤ w'.heap.size ∧ ∀ M, M ≤ m → M ≤ N → Below M w w' := by
  have hNw : N ≤ w.heap.size := Nat.le_trans h.set.1 (Nat.le_of_lt (lt_heap h.set.2.1))
  have hb0 := (Below.refl w.heap.size w).alloc (Nat.le_refl _) (.cells #[.int .u64 5, .string ⟨#[]⟩] 24)
  have hy := heap_alloc_self w (.cells #[.int .u64 5, .string ⟨#[]⟩] 24)
  have hz : (w.alloc (.cells #[.int .u64 5, .string ⟨#[]⟩] 24)).heap.size = w.heap.size + 1 := by simp
  have hml := lt_heap h.mir.at_
  have h1 := h.go hb0
  have ch := fun w => mhas3 w
  have cm := (mayT_none 5).1
  unfold itemA at cm
  clear h
  go_enter Try.func15, Try.ntmps15
  go_upto_region 1 with fail
  generalize w.alloc (.cells #[.int .u64 5, .string ⟨#[]⟩] 24) = w1 at *
  obtain ⟨d0, d1, -, -⟩ := item_cells hy
  obtain ⟨m3, -, -, -⟩ := h1.cell
  obtain ⟨N0, hN0⟩ : ∃ N, w1.heap.size = N := ⟨_, rfl⟩
  have HN := Lib.hid hN0
  have HB := Lib.hid hb0
  have HY := Lib.hid hy
  have HML := Lib.hid hml
  have hlt : w.heap.size < N0 := by omega
  have hlm : m < N0 := by omega
  have c1 : ∀ w', N0 ≤ w'.heap.size → Calls Try.prog 33 #[.int .i64 3] w' fun e w'' => e = .returned (.bool true) ∧ Stays N0 w' w'' := fun w' h => (ch w').mono fun e w'' ⟨he, hw⟩ => ⟨he, by rw [← hw]; exact stays_refl h⟩
  have c2 : ∀ w', N0 ≤ w'.heap.size → Calls Try.prog 34 #[.agg #[.int .u64 5, .string ⟨#[]⟩]] w' fun e w'' => e = .returned (.bool true) ∧ Stays N0 w' w'' := fun w' h => (cm w').mono fun e w'' ⟨he, hw⟩ => ⟨he, stays_of h hw⟩
  have HM := Lib.hid h1
  clear hb0 hy hz hml h1 ch cm hN0
  go_region_held3 (fun w' => N0 ≤ w'.heap.size ∧ Below N0 w1 w' ∧ ∀ b o, b < N0 → w'.cell? ⟨b, o, none⟩ = w1.cell? ⟨b, o, none⟩) (first | assumption | exact keeps_start HN.out | exact keeps_next (by assumption) (by assumption)) (first | (go_at_call 33; refine Calls.mono (c1 _ (And.left (by assumption))) ?_; rintro e wz ⟨rfl, hz⟩) | (go_at_call 34; refine Calls.mono (c2 _ (And.left (by assumption))) ?_; rintro e wz ⟨rfl, hz⟩))
  rename_i hfin
  have HB3 := Lib.hid (HB.out.trans (hfin.2.1.mono (Nat.le_of_lt hlt)))
  have H3 := Lib.hid (HM.out.go (HN.out.symm ▸ hfin.2.1))
  have y := below_at hfin.2.1 (by omega) (show w1.heap[w.heap.size]? = _ from HY.out)
  obtain ⟨W, hW⟩ : ∃ W, W = wz := ⟨_, rfl⟩
  subst hW
  clear hfin hz c1 c2 d0 d1 m3 HM
  obtain ⟨d0, d1, -, -⟩ := item_cells y
  obtain ⟨m3, m64, m65, f3⟩ := H3.out.cell
  go_upto_region 3 with fail
  go_region
  have HM4 := Lib.hid (H3.out.put 5).drew
  have y4 : (W.setCell ⟨m, 3, none⟩ (.int .u64 5)).drew.heap[w.heap.size]? = some (.cells #[.int .u64 5, .string ⟨#[]⟩] 24) := (heap_setCell_far (Nat.ne_of_lt HML.out) _).trans y
  have HB4 := Lib.hid (show w.heap.size ≤ (W.setCell ⟨m, 3, none⟩ (.int .u64 5)).drew.heap.size ∧ ∀ M, M ≤ m → M ≤ N → Below M w (W.setCell ⟨m, 3, none⟩ (.int .u64 5)).drew from ⟨by simpa using HB3.out.size, fun M h1 h2 => below_drew' ((HB3.out.mono (Nat.le_trans h2 hNw)).setCell (p := ⟨m, 3, none⟩) h1 _)⟩)
  generalize (W.setCell ⟨m, 3, none⟩ (.int .u64 5)).drew = W4 at *
  clear d0 d1 m3 m64 m65 f3 H3 HB3 y hz
  obtain ⟨d0, d1, -, -⟩ := item_cells y4
  obtain ⟨m3, m64, m65, f3⟩ := HM4.out.cell
  have cs := sput _ N p v [] HM4.out.set.drew ⟨3, 5, ⟨#[]⟩⟩ true (mayT_none 5) (by decide) (by decide)
  unfold itemA at cs
  rw [show putsL true [] (⟨3, 5, ⟨#[]⟩⟩ : HI) = true by decide, show putL true [] (⟨3, 5, ⟨#[]⟩⟩ : HI) = [⟨3, 5, ⟨#[]⟩⟩] from rfl] at cs
  clear m3 f3 y4
  go_upto_region 4 with fail
  go_region_with (go_at_call 35; refine Calls.mono cs ?_; rintro e w4 ⟨rfl, v', hs4, hk4⟩)
  all_goals
    have HM5 := Lib.hid (HM4.out.drew.step hs4 hk4)
    have HB5 := Lib.hid (show w.heap.size ≤ w4.heap.size ∧ ∀ M, M ≤ m → M ≤ N → Below M w w4 from ⟨Nat.le_trans HB4.out.1 hk4.size, fun M h1 h2 => (HB4.out.2 M h1 h2).trans ((okept_drew hk4).below.mono h2)⟩)
    have cc := cdrop0 C a mv 3 w4 HM5.out.cac.at_ HM5.out.arc.at_
    clear hs4 hk4
    obtain ⟨-, -, m65, -⟩ := HM5.out.cell
    go_wp2_with fail
    refine Calls.mono cc ?_
    rintro e w5 ⟨rfl, rfl⟩
    go_wp2_with fail
    go_ret
    exact ⟨rfl, v', HM5.out, HB5.out⟩
end Go.Proofs.Ytnjklhmnkjejfaa
