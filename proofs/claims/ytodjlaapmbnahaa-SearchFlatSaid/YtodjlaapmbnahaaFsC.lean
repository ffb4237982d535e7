/-
  flat: clashes of spans, and whether a block's values fit.
-/
import Derived.Test.YtodjlaapmbnahaaFsB
namespace Go.Proofs.Ytodjlaapmbnahaa
open Go.RowKit
set_option linter.unusedVariables false
set_option linter.unusedSimpArgs false

theorem two_blk (w : World) (o p : Obj) : ((w.alloc o).alloc p).heap[w.heap.size]? = some o ∧ ((w.alloc o).alloc p).heap[w.heap.size + 1]? = some p := by
  refine ⟨?_, ?_⟩
  · rw [Below.heap_alloc _ _ _ (by simp)]; exact heap_alloc_self w o
  · have := heap_alloc_self (w.alloc o) p
    simpa using this
def fwd (s : Sp) : Bool := decide (s.e < s.b)
def clashB (s o : Sp) : Bool := fwd s && (if fwd o then decide (max s.e o.e < min s.b o.b) else decide (s.e < o.b) && (decide (o.b < s.b) && (decide (s.e < o.e) && decide (o.e < s.b))))
theorem pforward (s : Sp) (w : World) : Calls Try.prog 30 #[.agg #[.string s.val, .int .i64 s.e, .int .i64 s.b]] w fun e w' => e = .returned (.bool (fwd s)) ∧ Below w.heap.size w w' := by
  have hb : Below w.heap.size w (w.alloc (.cells #[.string s.val, .int .i64 s.e, .int .i64 s.b] 63)) := (Below.refl _ _).alloc (Nat.le_refl _) _
  have h := heap_alloc_self w (.cells #[.string s.val, .int .i64 s.e, .int .i64 s.b] 63)
  have HB := Lib.hid hb
  clear hb
  go_enter Try.func30, Try.ntmps30
  go_upto_region 1 with fail
  generalize w.alloc (.cells #[.string s.val, .int .i64 s.e, .int .i64 s.b] 63) = w1 at *
  have x0 := cell_atF h 0 (v := .string s.val) rfl
  have x1 := cell_atF h 1 (v := .int .i64 s.e) rfl
  have x2 := cell_atF h 2 (v := .int .i64 s.b) rfl
  go_wp2_with fail
  go_ret
  exact ⟨rfl, HB.out⟩
set_option maxHeartbeats 3200000 in
set_option maxRecDepth 100000 in
theorem pclash (s o : Sp) (w : World) : Calls Try.prog 21 #[.agg #[.string s.val, .int .i64 s.e, .int .i64 s.b], .agg #[.string o.val, .int .i64 o.e, .int .i64 o.b]] w fun e w' => e = .returned (.bool (clashB s o)) ∧ Below w.heap.size w w' := by
  have t := two_blk w (.cells #[.string s.val, .int .i64 s.e, .int .i64 s.b] 63) (.cells #[.string o.val, .int .i64 o.e, .int .i64 o.b] 63)
  have hb : Below w.heap.size w ((w.alloc (.cells #[.string s.val, .int .i64 s.e, .int .i64 s.b] 63)).alloc (.cells #[.string o.val, .int .i64 o.e, .int .i64 o.b] 63)) := ((Below.refl _ _).alloc (Nat.le_refl _) _).alloc (by simp) _
  have c1 := fun w => pforward s w
  have c2 := fun w => pforward o w
  obtain ⟨X, hX⟩ : ∃ X, w.heap.size = X := ⟨_, rfl⟩
  rw [hX] at t hb ⊢
  have HB := Lib.hid (And.intro t hb)
  unfold clashB
  go_enter Try.func21, Try.ntmps21
  go_upto_region 1 with fail
  try rw [hX]
  generalize (w.alloc (.cells #[.string s.val, .int .i64 s.e, .int .i64 s.b] 63)).alloc (.cells #[.string o.val, .int .i64 o.e, .int .i64 o.b] 63) = w1 at *
  have h1 := t.1
  have h2 := t.2
  have x0 := cell_atF h1 0 (v := .string s.val) rfl
  have x1 := cell_atF h1 1 (v := .int .i64 s.e) rfl
  have x2 := cell_atF h1 2 (v := .int .i64 s.b) rfl
  have y0 := cell_atF h2 0 (v := .string o.val) rfl
  have y1 := cell_atF h2 1 (v := .int .i64 o.e) rfl
  have y2 := cell_atF h2 2 (v := .int .i64 o.b) rfl
  have HXS := Lib.hid hX
  clear t hb hX h1 h2
  cases hfs : fwd s
  · rw [hfs] at c1
    go_wp2_with fail
    refine Calls.mono (c1 _) ?_
    rintro e w2 ⟨rfl, hb2⟩
    have HF := Lib.hid (HB.out.2.trans (hb2.mono (Nat.le_trans (Nat.le_of_eq HXS.out.symm) HB.out.2.size)))
    clear hb2 c1 c2
    go_wp2_with fail
    all_goals go_returns
    all_goals exact ⟨by simp, HF.out⟩
  · rw [hfs] at c1
    go_wp2_with fail
    refine Calls.mono (c1 _) ?_
    rintro e w2 ⟨rfl, hb2⟩
    have h1 := below_at hb2 (lt_heap HB.out.1.1) HB.out.1.1
    have h2 := below_at hb2 (lt_heap HB.out.1.2) HB.out.1.2
    have HB2 := Lib.hid (And.intro h1 (And.intro h2 (HB.out.2.trans (hb2.mono (Nat.le_trans (Nat.le_of_eq HXS.out.symm) HB.out.2.size)))))
    clear hb2 c1 x0 x1 x2 y0 y1 y2
    have x0 := cell_atF h1 0 (v := .string s.val) rfl
    have x1 := cell_atF h1 1 (v := .int .i64 s.e) rfl
    have x2 := cell_atF h1 2 (v := .int .i64 s.b) rfl
    have y0 := cell_atF h2 0 (v := .string o.val) rfl
    have y1 := cell_atF h2 1 (v := .int .i64 o.e) rfl
    have y2 := cell_atF h2 2 (v := .int .i64 o.b) rfl
    clear h1 h2
    go_wp2_with fail
    refine Calls.mono (c2 _) ?_
    rintro e w3 ⟨rfl, hb3⟩
    have h1 := below_at hb3 (lt_heap HB2.out.1) HB2.out.1
    have h2 := below_at hb3 (lt_heap HB2.out.2.1) HB2.out.2.1
    have HB3 := Lib.hid (HB2.out.2.2.trans (hb3.mono (Nat.le_trans (Nat.le_of_eq HXS.out.symm) HB2.out.2.2.size)))
    clear hb3 c2 x0 x1 x2 y0 y1 y2
    have x0 := cell_atF h1 0 (v := .string s.val) rfl
    have x1 := cell_atF h1 1 (v := .int .i64 s.e) rfl
    have x2 := cell_atF h1 2 (v := .int .i64 s.b) rfl
    have y0 := cell_atF h2 0 (v := .string o.val) rfl
    have y1 := cell_atF h2 1 (v := .int .i64 o.e) rfl
    have y2 := cell_atF h2 2 (v := .int .i64 o.b) rfl
    clear h1 h2
    cases hfo : fwd o
    · by_cases q1 : s.e < o.b
      · by_cases q2 : o.b < s.b
        · by_cases q3 : s.e < o.e
          · go_wp2_with fail
            all_goals go_returns
            all_goals exact ⟨by simp [q1, q2, q3]; try omega, HB3.out⟩
          · go_wp2_with fail
            all_goals go_returns
            all_goals exact ⟨by simp [q1, q2, q3]; try omega, HB3.out⟩
        · go_wp2_with fail
          all_goals go_returns
          all_goals exact ⟨by simp [q1, q2]; try omega, HB3.out⟩
      · go_wp2_with fail
        all_goals go_returns
        all_goals exact ⟨by simp [q1]; try omega, HB3.out⟩
    · go_wp2_with fail
      all_goals go_returns
      all_goals exact ⟨by simp, HB3.out⟩
end Go.Proofs.Ytodjlaapmbnahaa
