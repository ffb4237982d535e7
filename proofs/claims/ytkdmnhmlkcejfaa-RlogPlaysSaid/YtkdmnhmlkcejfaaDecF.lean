/-
  Which commands may be: decide.May.
-/
import Derived.Test.YtkdmnhmlkcejfaaDecE
namespace Go.Proofs.Ytkdmnhmlkcejfaa
open Go.RowKit
set_option linter.unusedVariables false
set_option linter.unusedSimpArgs false

def mayK (x : Int) (c : CF) : Bool :=
  if x = 0 then noneC c else if x = 1 then c.e == 0 && (!noneC c && mayC c) else if x = 2 then decide (1 ≤ c.e) && (decide (c.e ≤ 1048576) && sameC c ⟨c.e, 0, 0, [], []⟩) else false
set_option maxHeartbeats 3200000 in
theorem dmay (x : Int) (c : CF) (a1 a2 : Option Addr) (q1 q2 : Nat) (w : World) (h : CFat c w (.slice a1 c.M.length q1) (.slice a2 c.C.length q2)) :
    Calls Try.prog 47 #[.agg #[.int .i64 x, .int .i64 c.e, .int .i64 c.b, .int .i64 c.k, .slice a1 c.M.length q1, .slice a2 c.C.length q2]] w fun ev w' => ev = .returned (.bool (mayK x c)) ∧ Below w.heap.size w w' := by
  have cn := cnoneD c a1 a2 q1 q2
  have hx := heap_alloc_self w (.cells #[.int .i64 x, .int .i64 c.e, .int .i64 c.b, .int .i64 c.k, .slice a1 c.M.length q1, .slice a2 c.C.length q2] 44)
  have hb : Below w.heap.size w (w.alloc (.cells #[.int .i64 x, .int .i64 c.e, .int .i64 c.b, .int .i64 c.k, .slice a1 c.M.length q1, .slice a2 c.C.length q2] 44)) := (Below.refl _ _).alloc (Nat.le_refl _) _
  go_enter Try.func47, Try.ntmps47
  go_upto_region 1 with fail
  generalize w.alloc (.cells #[.int .i64 x, .int .i64 c.e, .int .i64 c.b, .int .i64 c.k, .slice a1 c.M.length q1, .slice a2 c.C.length q2] 44) = w1 at *
  have d0 := cell_atD hx 0 (v := .int .i64 x) rfl
  have d1 := cell_atD hx 1 (v := .int .i64 c.e) rfl
  have d2 := cell_atD hx 2 (v := .int .i64 c.b) rfl
  have d3 := cell_atD hx 3 (v := .int .i64 c.k) rfl
  have d4 := cell_atD hx 4 (v := .slice a1 c.M.length q1) rfl
  have d5 := cell_atD hx 5 (v := .slice a2 c.C.length q2) rfl
  have HX := Lib.hid (And.intro hx hb)
  have hc := h.below hb
  have HC := Lib.hid hc
  have cs := csameD c ⟨c.e, 0, 0, [], []⟩ a1 a2 none none q1 q2 0 0 w1 hc ⟨SR.nil_ _ _, SR.nil_ _ _⟩
  simp only [List.length_nil] at cs
  clear hx hb hc h
  by_cases x0 : x = 0
  · subst x0
    clear cs
    go_wp2_with fail
    refine Calls.mono (cn _) ?_
    rintro ev w2 ⟨rfl, hb2⟩
    have hbb : Below w.heap.size w w2 := HX.out.2.trans (hb2.mono HX.out.2.size)
    have HB := Lib.hid hbb
    clear hb2 hbb
    go_wp2_with fail
    go_ret
    exact ⟨ret_bool (by simp [mayK]), HB.out⟩
  by_cases x1 : x = 1
  · subst x1
    clear cs
    rcases e0 : c.e == 0
    · go_wp2_with fail
      go_ret
      exact ⟨ret_bool (by simp only [mayK, e0, if_neg (show ¬ ((1 : Int) = 0) by decide), if_true, Bool.false_and]), HX.out.2⟩
    · go_wp2_with fail
      refine Calls.mono (cn _) ?_
      rintro ev w2 ⟨rfl, hb2⟩
      have hbb : Below w.heap.size w w2 := HX.out.2.trans (hb2.mono HX.out.2.size)
      have hx2 := below_at hb2 (lt_heap HX.out.1) HX.out.1
      have cm := cmayD c a1 a2 q1 q2 w2 (HC.out.below hb2)
      have d1' := cell_atD hx2 1 (v := .int .i64 c.e) rfl
      have d2' := cell_atD hx2 2 (v := .int .i64 c.b) rfl
      have d3' := cell_atD hx2 3 (v := .int .i64 c.k) rfl
      have d4' := cell_atD hx2 4 (v := .slice a1 c.M.length q1) rfl
      have d5' := cell_atD hx2 5 (v := .slice a2 c.C.length q2) rfl
      have HB := Lib.hid hbb
      clear hb2 hbb hx2 d0 d1 d2 d3 d4 d5
      rcases e1 : noneC c
      · go_wp2_with fail
        refine Calls.mono cm ?_
        rintro ev w3 ⟨rfl, hb3⟩
        have hbb : Below w.heap.size w w3 := HB.out.trans (hb3.mono HB.out.size)
        have HB3 := Lib.hid hbb
        clear hb3 hbb
        go_wp2_with fail
        go_ret
        exact ⟨ret_bool (by simp only [mayK, e0, e1, if_neg (show ¬ ((1 : Int) = 0) by decide), if_true, Bool.true_and, Bool.not_false]), HB3.out⟩
      · go_wp2_with fail
        go_ret
        exact ⟨ret_bool (by simp only [mayK, e0, e1, if_neg (show ¬ ((1 : Int) = 0) by decide), if_true, Bool.true_and, Bool.not_true, Bool.false_and]), HB.out⟩
  by_cases x2 : x = 2
  · subst x2
    clear cn
    rcases g1 : decide (1 ≤ c.e)
    · have g1' : ¬ (1 ≤ c.e) := by simpa using g1
      go_wp2_with fail
      go_ret
      exact ⟨ret_bool (by simp only [mayK, g1, if_neg (show ¬ ((2 : Int) = 0) by decide), if_neg (show ¬ ((2 : Int) = 1) by decide), if_true, Bool.false_and]), HX.out.2⟩
    have g1' : 1 ≤ c.e := by simpa using g1
    rcases g2 : decide (c.e ≤ 1048576)
    · have g2' : ¬ (c.e ≤ 1048576) := by simpa using g2
      go_wp2_with fail
      go_ret
      exact ⟨ret_bool (by simp only [mayK, g1, g2, if_neg (show ¬ ((2 : Int) = 0) by decide), if_neg (show ¬ ((2 : Int) = 1) by decide), if_true, Bool.false_and, Bool.true_and]), HX.out.2⟩
    have g2' : c.e ≤ 1048576 := by simpa using g2
    go_wp2_with fail
    refine Calls.mono cs ?_
    rintro ev w2 ⟨rfl, hb2⟩
    have hbb : Below w.heap.size w w2 := HX.out.2.trans (hb2.mono HX.out.2.size)
    have HB := Lib.hid hbb
    clear hb2 hbb
    go_wp2_with fail
    go_ret
    exact ⟨ret_bool (by simp only [mayK, g1, g2, if_neg (show ¬ ((2 : Int) = 0) by decide), if_neg (show ¬ ((2 : Int) = 1) by decide), if_true, Bool.true_and]), HB.out⟩
  clear cn cs
  go_wp2_with fail
  go_ret
  exact ⟨ret_bool (by simp only [mayK, if_neg x0, if_neg x1, if_neg x2]), HX.out.2⟩
end Go.Proofs.Ytkdmnhmlkcejfaa
