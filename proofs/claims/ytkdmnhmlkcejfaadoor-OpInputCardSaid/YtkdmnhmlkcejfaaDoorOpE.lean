/-
  The waking call of layer 32.
-/
import Derived.Test.YtkdmnhmlkcejfaaDoorOpC
namespace Go.Proofs.YtkdmnhmlkcejfaaDoor
open Go.RowKit
set_option linter.unusedVariables false
set_option linter.unusedSimpArgs false

theorem cell_block {w : World} {b o : Nat} {v : Value} (h : w.cell? ⟨b, o, none⟩ = some v) : b < w.heap.size := by have := World.block_lt_of_cell? w _ h; simpa using this
set_option maxHeartbeats 6400000 in
set_option maxRecDepth 100000 in
theorem awake32 (w : World) (hT : TabO w) : Calls Tryd.prog 8 #[] w fun e w' => e = .returned (.bool true) ∧ Below w.heap.size w w' := by
  have t := two_blocks w (.cells #[.int .i64 1] 3) (.cells #[.int .i64 0] 3)
  have hb0 : Below w.heap.size w ((w.alloc (.cells #[.int .i64 1] 3)).alloc (.cells #[.int .i64 0] 3)) := ((Below.refl _ _).alloc (Nat.le_refl _) _).alloc (by simp) _
  have hcf : CFat ⟨1, 5, 1, [1], [0]⟩ ((w.alloc (.cells #[.int .i64 1] 3)).alloc (.cells #[.int .i64 0] 3)) (.slice (some ⟨w.heap.size, 0, none⟩) 1 1) (.slice (some ⟨w.heap.size + 1, 0, none⟩) 1 1) := ⟨sr_block (cs := #[.int .i64 1]) t.1 rfl (by decide), sr_block (cs := #[.int .i64 0]) t.2 rfl (by decide)⟩
  have hnb : newB 0 3 2 true ⟨1, 5, 1, [1], [0]⟩ = true := by decide
  go_enter Tryd.func8, Tryd.ntmps8
  obtain ⟨w1, hw1⟩ : ∃ w1, (w.alloc (.cells #[.int .i64 1] 3)).alloc (.cells #[.int .i64 0] 3) = w1 := ⟨_, rfl⟩
  rw [hw1] at hb0 hcf
  have cn := onew ⟨1, 5, 1, [1], [0]⟩ (some ⟨w.heap.size, 0, none⟩) (some ⟨w.heap.size + 1, 0, none⟩) 1 1 0 3 2 7 ⟨#[]⟩ false true w1 hcf ⟨by decide, by decide⟩ ⟨imay_none 7, rmay_none 7⟩
  simp only [List.length_cons, List.length_nil, Nat.zero_add] at cn
  have hT1 := TabO.below hT hb0
  have HH := Lib.hid (And.intro hb0 hT1)
  have HNB := Lib.hid hnb
  clear hb0 hT1 hcf hnb t hT
  go_wp2_with fail
  refine Calls.mono cn ?_
  rintro e w2 ⟨hb2, hor⟩
  rcases hor with ⟨h1, -⟩ | ⟨-, X, b1, p1, b2, p2, rfl, hXb, hx⟩
  · rw [HNB.out] at h1; cases h1
  have hx2 : w2.heap[X]? = some (.cells (opA 1 5 1 (.slice b1 1 p1) (.slice b2 1 p2) 0 3 2 7 ⟨#[]⟩ false 0 false true false false false 0 false) 69) := hx
  have HB2 := Lib.hid (And.intro (HH.out.1.trans (hb2.mono HH.out.1.size)) (HH.out.2.below hb2))
  have cs := osay X b1 b2 p1 p2 w2 HB2.out.2 hx2
  have HX2 := Lib.hid hx2
  clear cn hx hx2 hb2 hw1
  go_wp2_with fail
  refine Calls.mono cs ?_
  rintro e w3 ⟨g, o, cap, rfl, c0, c2, hb3⟩
  have hx3 := below_at hb3 (lt_heap HX2.out) HX2.out
  have HB3 := Lib.hid (And.intro (HB2.out.1.trans (hb3.mono HB2.out.1.size)) (HB2.out.2.below hb3))
  have hne : X ≠ 1 := by
    intro e
    have h1 := cell_atD hx3 0 (v := .int .i64 1) rfl
    rw [e, HB3.out.2.2] at h1
    simp at h1
  have ch := ohear X b1 b2 p1 p2 w3 HB3.out.2 hx3 hne
  clear cs hb3 hx3
  go_wp2_with fail
  refine Calls.mono ch ?_
  rintro e w4 ⟨rfl, hx4, ho4⟩
  have c5 := ostep X 5 w4 (cell_atD hx4 11 rfl)
  have HF := Lib.hid (show Below w.heap.size w w4 from HB3.out.1.trans (ho4.below (Nat.le_trans HH.out.1.size hXb) HB3.out.1.size))
  clear ch hx4 ho4 c0 c2
  go_wp2_with fail
  refine Calls.mono c5 ?_
  rintro e w5 ⟨rfl, rfl⟩
  go_wp2_with fail
  go_ret
  exact ⟨rfl, HF.out⟩
end Go.Proofs.YtkdmnhmlkcejfaaDoor
